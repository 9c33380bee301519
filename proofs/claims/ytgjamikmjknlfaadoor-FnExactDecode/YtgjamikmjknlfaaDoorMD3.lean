/-
  A command in bytes, as the specification writes it: the walks. The sum as arithmetic: half of a number, exclusive-or the fixed number when it was odd; four of these at once by a table of sixteen; each is one to one below 2^32. Sums: the walks. Sealed texts: the walks. Short texts: the walks of what writes them.
-/
import Derived.Test.YtgjamikmjknlfaaDoorMD2
import Derived.Test.YtgjamikmjknlfaaDoorRvs
import Derived.Test.YtgjamikmjknlfaaDoorWd
import Derived.Test.YtgjamikmjknlfaaDoorDci
import Derived.Test.YtgjamikmjknlfaaDoorRows
import Derived.Test.YtgjamikmjknlfaaDoorAid
import Derived.WalkKit
import Derived.WalkSpells
import Derived.WalkLawsBesides
import Derived.Handy
import Derived.Laws.BitsAllLaws
import Derived.Lib.LaidTab
import Derived.Test.YtgjamikmjknlfaaDoorShelf
import Derived.Deep.RegionHeld
namespace Go.Proofs.YtgjamikmjknlfaaDoor
open Go Go.RowKit

theorem varF_len : ∀ f n, (varF f n).length ≤ f + 1
  | 0, n => by simp [varF]
  | f + 1, n => by
    unfold varF
    split
    · have := varF_len f (n / 128); simp; omega
    · simp
theorem var_size (n : Nat) : (bstr (varI n)).size ≤ n + 1 := by rw [bstr_size']; exact varF_len n n
/-- A text with its length ahead. -/
def shortS (s : ByteArray) : ByteArray := bstr (varI s.size) ++ s
def flagS (b : Bool) : ByteArray := if b then ⟨#[1]⟩ else ⟨#[0]⟩
/-- A command in bytes. -/
def cmtS (op tok seq : Int) (text task : ByteArray) (num up : Int) (yes : Bool) : ByteArray := bstr [op] ++ bstr (varI tok.toNat) ++ bstr (varI seq.toNat) ++ shortS text ++ shortS task ++ bstr (varI num.toNat) ++ bstr (varI up.toNat) ++ flagS yes
def cmtX (op tok seq : Int) (text task : ByteArray) (num up : Int) (yes : Bool) : ByteArray := if cmdB op tok seq text task num up yes then cmtS op tok seq text task num up yes else ⟨#[]⟩
theorem rest_fine {f1 f2 f3 f4 f5 : Bool} {text task : ByteArray} {num up : Int} {yes : Bool} (h : restB f1 f2 f3 f4 f5 text task num up yes = true) : (f1 = false → text.size = 0) ∧ (f2 = false → task.size = 0) ∧ (f3 = false → num = 0) ∧ (f4 = false → up = 0) := by
  unfold restB at h
  simp only [Bool.and_eq_true, Bool.or_eq_true, decide_eq_true_eq] at h
  obtain ⟨h1, h2, h3, h4, _⟩ := h
  refine ⟨fun e => ?_, fun e => ?_, fun e => ?_, fun e => ?_⟩
  · subst e; rcases h1 with h | h; cases h; subst h; rfl
  · subst e; rcases h2 with h | h; cases h; subst h; rfl
  · subst e; rcases h3 with h | h; cases h; exact h
  · subst e; rcases h4 with h | h; cases h; exact h
theorem name_size8 {s : ByteArray} (h : nameB s = true) : s.size ≤ 8 := by
  unfold nameB at h
  simp only [Bool.and_eq_true, decide_eq_true_eq] at h
  exact h.1.2
theorem cmd_fine {op tok seq : Int} {text task : ByteArray} {num up : Int} {yes : Bool} (h : cmdB op tok seq text task num up yes = true) : 1 ≤ op ∧ op ≤ 9 ∧ 0 ≤ tok ∧ tok ≤ 1000000 ∧ 0 ≤ seq ∧ seq ≤ 1000000 ∧ text.size ≤ 600 ∧ task.size ≤ 8 ∧ 0 ≤ num ∧ num ≤ 1000000000 ∧ 0 ≤ up ∧ up ≤ 68374079 := by
  unfold cmdB opB at h
  simp only [Bool.and_eq_true, decide_eq_true_eq] at h
  obtain ⟨h1, h2, h⟩ := h
  refine (fun (k : 1 ≤ op ∧ op ≤ 9 ∧ text.size ≤ 600 ∧ task.size ≤ 8 ∧ 0 ≤ num ∧ num ≤ 1000000000 ∧ 0 ≤ up ∧ up ≤ 68374079) => ⟨k.1, k.2.1, h1.1, h1.2, h2.1, h2.2, k.2.2⟩) ?_
  repeat' split at h
  all_goals (try simp only [Bool.and_eq_true, decide_eq_true_eq] at h)
  all_goals (try (cases h; done))
  · obtain ⟨_, _, h⟩ := h; have r := rest_fine h; have a := r.1 rfl; have b := r.2.1 rfl; have c := r.2.2.1 rfl; have d := r.2.2.2 rfl; omega
  · obtain ⟨x, h⟩ := h; have r := rest_fine h; have b := r.2.1 rfl; have c := r.2.2.1 rfl; have d := r.2.2.2 rfl; omega
  · obtain ⟨x, h⟩ := h; have r := rest_fine h; have a := name_size8 x; have b := r.2.1 rfl; have c := r.2.2.1 rfl; have d := r.2.2.2 rfl; omega
  · obtain ⟨x, h⟩ := h; have r := rest_fine h; have a := r.1 rfl; have b := r.2.1 rfl; have d := r.2.2.2 rfl; omega
  · have r := rest_fine h; have a := r.1 rfl; have b := r.2.1 rfl; have c := r.2.2.1 rfl; have d := r.2.2.2 rfl; omega
  · obtain ⟨x, h⟩ := h; have r := rest_fine h; have a := r.1 rfl; have b := r.2.1 rfl; have d := r.2.2.2 rfl; omega
  · obtain ⟨x, h⟩ := h; have r := rest_fine h; have a := r.1 rfl; have b := r.2.1 rfl; have d := r.2.2.2 rfl; omega
  · obtain ⟨x, y, z, h⟩ := h; have r := rest_fine h; have a := name_size8 x; have b := r.2.1 rfl; omega
  · obtain ⟨x, y, z, h⟩ := h; have r := rest_fine h; have a := name_size8 x; have b := name_size8 y; have d := r.2.2.2 rfl; omega

end Go.Proofs.YtgjamikmjknlfaaDoor

namespace Go.Proofs.YtgjamikmjknlfaaDoor
/-- half of a sum, exclusive-or the fixed number when it was odd -/
def msk (r : Nat) : Nat := if r % 2 = 1 then 3558460437 else 0
def half (s : Nat) : Nat := s / 2 ^^^ msk s
theorem msk_xor (a b : Nat) : msk (a ^^^ b) = msk a ^^^ msk b := by
  unfold msk
  have h : (a ^^^ b) % 2 = (a % 2) ^^^ (b % 2) := Nat.xor_mod_two_pow (a := a) (b := b) (n := 1)
  rcases Nat.mod_two_eq_zero_or_one a with ha | ha <;> rcases Nat.mod_two_eq_zero_or_one b with hb | hb <;> rw [h, ha, hb] <;> decide
theorem half_xor (a b : Nat) : half (a ^^^ b) = half a ^^^ half b := by
  unfold half
  rw [msk_xor, Nat.xor_div_two]
  ac_rfl
theorem msk_lt (r : Nat) : msk r < 4294967296 := by unfold msk; split <;> omega
theorem half_lt {s : Nat} (h : s < 4294967296) : half s < 4294967296 := by
  unfold half
  have := msk_lt s
  exact Nat.xor_lt_two_pow (n := 32) (by omega) (by omega)
theorem half_inj {a b : Nat} (ha : a < 4294967296) (hb : b < 4294967296) (h : half a = half b) : a = b := by
  unfold half at h
  have h31 := congrArg (fun n => n.testBit 31) h
  simp only [Nat.testBit_xor] at h31
  rw [Nat.testBit_lt_two_pow (x := a / 2) (i := 31) (by omega), Nat.testBit_lt_two_pow (x := b / 2) (i := 31) (by omega)] at h31
  have hm : a % 2 = b % 2 := by
    unfold msk at h31
    rcases Nat.mod_two_eq_zero_or_one a with h1 | h1 <;> rcases Nat.mod_two_eq_zero_or_one b with h2 | h2 <;> rw [h1, h2] at h31 <;> first | (exfalso; revert h31; decide) | omega
  have hk : msk a = msk b := by unfold msk; rw [hm]
  rw [hk] at h
  have h3 := congrArg (· ^^^ msk b) h
  simp only [Nat.xor_assoc, Nat.xor_self, Nat.xor_zero] at h3
  omega
def half4 (s : Nat) : Nat := half (half (half (half s)))
def half8 (s : Nat) : Nat := half4 (half4 s)
def tab : List Nat := [0x00000000, 0x4589ac8d, 0x8b13591a, 0xce9af597,
  0xbe152a1f, 0xfb9c8692, 0x35067305, 0x708fdf88,
  0xd419cc15, 0x91906098, 0x5f0a950f, 0x1a833982,
  0x6a0ce60a, 0x2f854a87, 0xe11fbf10, 0xa496139d]
theorem msk_mod (s : Nat) : msk s = msk (s % 2) := by unfold msk; rw [Nat.mod_mod]
theorem half4_open (s : Nat) : half4 s = s / 16 ^^^ (msk (s / 8) ^^^ half (msk (s / 4)) ^^^ half (half (msk (s / 2))) ^^^ half (half (half (msk s)))) := by
  have e (x : Nat) : half x = x / 2 ^^^ msk x := rfl
  unfold half4
  rw [e s, half_xor, half_xor, half_xor, e (s / 2), half_xor, half_xor, e (s / 2 / 2), half_xor, e (s / 2 / 2 / 2)]
  simp only [Nat.div_div_eq_div_mul]
  ac_rfl
theorem tab_is : ∀ r < 16, (msk (r / 8) ^^^ half (msk (r / 4)) ^^^ half (half (msk (r / 2))) ^^^ half (half (half (msk r)))) = tab.getD r 0 := by decide +kernel
theorem half4_tab (s : Nat) : half4 s = s / 16 ^^^ tab.getD (s % 16) 0 := by
  rw [half4_open, ← tab_is (s % 16) (by omega)]
  rw [msk_mod (s / 8), msk_mod (s / 4), msk_mod (s / 2), msk_mod s, msk_mod (s % 16 / 8), msk_mod (s % 16 / 4), msk_mod (s % 16 / 2), msk_mod (s % 16)]
  rw [show s % 16 / 8 % 2 = s / 8 % 2 by omega, show s % 16 / 4 % 2 = s / 4 % 2 by omega, show s % 16 / 2 % 2 = s / 2 % 2 by omega, show s % 16 % 2 = s % 2 by omega]
theorem half4_lt {s : Nat} (h : s < 4294967296) : half4 s < 4294967296 := half_lt (half_lt (half_lt (half_lt h)))
theorem half8_lt {s : Nat} (h : s < 4294967296) : half8 s < 4294967296 := half4_lt (half4_lt h)
theorem half4_inj {a b : Nat} (ha : a < 4294967296) (hb : b < 4294967296) (h : half4 a = half4 b) : a = b :=
  half_inj ha hb (half_inj (half_lt ha) (half_lt hb) (half_inj (half_lt (half_lt ha)) (half_lt (half_lt hb)) (half_inj (half_lt (half_lt (half_lt ha))) (half_lt (half_lt (half_lt hb))) h)))
theorem half8_inj {a b : Nat} (ha : a < 4294967296) (hb : b < 4294967296) (h : half8 a = half8 b) : a = b := half4_inj ha hb (half4_inj (half4_lt ha) (half4_lt hb) h)

/-- The sum behind one byte more, and behind a row of bytes. -/
def more (s b : Nat) : Nat := half8 (s ^^^ b)
def sumL (s : Nat) (l : List Nat) : Nat := l.foldl more s
theorem more_lt {s b : Nat} (h : s < 4294967296) (hb : b < 256) : more s b < 4294967296 := half8_lt (Nat.xor_lt_two_pow (n := 32) (by omega) (by omega))
theorem sumL_lt : ∀ {l : List Nat} {s : Nat}, s < 4294967296 → (∀ b ∈ l, b < 256) → sumL s l < 4294967296
  | [], _, h, _ => h
  | b :: l, s, h, hb => sumL_lt (l := l) (s := more s b) (more_lt h (hb b (by simp))) (fun c hc => hb c (by simp [hc]))
theorem sumL_append (s : Nat) (l m : List Nat) : sumL s (l ++ m) = sumL (sumL s l) m := List.foldl_append ..
theorem xor_cancel {a b c : Nat} (h : a ^^^ c = b ^^^ c) : a = b := by
  have h3 := congrArg (· ^^^ c) h
  simpa only [Nat.xor_assoc, Nat.xor_self, Nat.xor_zero] using h3
theorem more_inj {a b c : Nat} (ha : a < 4294967296) (hb : b < 4294967296) (hc : c < 256) (h : more a c = more b c) : a = b :=
  xor_cancel (half8_inj (Nat.xor_lt_two_pow (n := 32) (by omega) (by omega)) (Nat.xor_lt_two_pow (n := 32) (by omega) (by omega)) h)
theorem more_byte {s b c : Nat} (hs : s < 4294967296) (hb : b < 256) (hc : c < 256) (h : more s b = more s c) : b = c := by
  have := half8_inj (Nat.xor_lt_two_pow (n := 32) (by omega) (by omega)) (Nat.xor_lt_two_pow (n := 32) (by omega) (by omega)) h
  rw [Nat.xor_comm s b, Nat.xor_comm s c] at this
  exact xor_cancel this
theorem sumL_inj : ∀ {l : List Nat} {a b : Nat}, a < 4294967296 → b < 4294967296 → (∀ c ∈ l, c < 256) → sumL a l = sumL b l → a = b
  | [], _, _, _, _, _, h => h
  | c :: l, a, b, ha, hb, hl, h => more_inj ha hb (hl c (by simp)) (sumL_inj (l := l) (more_lt ha (hl c (by simp))) (more_lt hb (hl c (by simp))) (fun d hd => hl d (by simp [hd])) h)
/-- One byte turned: another sum. -/
theorem sumL_turned {s b c : Nat} {l m : List Nat} (hs : s < 4294967296) (hl : ∀ x ∈ l, x < 256) (hm : ∀ x ∈ m, x < 256) (hb : b < 256) (hc : c < 256)
    (h : sumL s (l ++ b :: m) = sumL s (l ++ c :: m)) : b = c := by
  rw [sumL_append, sumL_append] at h
  have h2 := sumL_lt hs hl
  exact more_byte h2 hb hc (sumL_inj (l := m) (more_lt h2 hb) (more_lt h2 hc) hm h)
end Go.Proofs.YtgjamikmjknlfaaDoor

namespace Go.Proofs.YtgjamikmjknlfaaDoor
open Go.RowKit

def tabI : List Int := [0, 1166650509, 2333301018, 3466261911, 3189058079, 4221339282, 889615109, 1888477064, 3558460437, 2442158232, 1594529039, 444807554, 1779230218, 797264519, 3776954128, 2761298845]
theorem tabI_is : tabI = tab.map fun (n : Nat) => (n : Int) := by decide
def TableIs (w : World) : Prop := Lib.TabIs Tryd.prog w "loop.example/g00188/impl.sumTable" .u32 tabI
def tabAt (r : Nat) : Nat := tab.getD r 0
theorem tab_lt (r : Nat) (h : r < 16) : tabAt r < 4294967296 := (show ∀ r < 16, tab.getD r 0 < 4294967296 by decide +kernel) r h
/-- The bytes of a text as numbers; the sum of a text behind a sum. -/
def bl (t : ByteArray) : List Nat := t.data.toList.map UInt8.toNat
theorem bl_length (t : ByteArray) : (bl t).length = t.size := by unfold bl; rw [List.length_map]; rfl
theorem bl_lt (t : ByteArray) : ∀ b ∈ bl t, b < 256 := by
  intro b hb
  simp only [bl, List.mem_map] at hb
  obtain ⟨u, _, rfl⟩ := hb
  exact u.toNat_lt
def sumTo (s : Nat) (t : ByteArray) (k : Nat) : Nat := sumL s ((bl t).take k)
theorem sumTo_zero (s : Nat) (t : ByteArray) : sumTo s t 0 = s := rfl
theorem sumTo_step {s : Nat} {t : ByteArray} {k : Nat} (h : k < t.size) : sumTo s t (k + 1) = more (sumTo s t k) t[k].toNat := by
  unfold sumTo
  have hk : k < (bl t).length := by rw [bl_length]; exact h
  rw [List.take_add_one, List.getElem?_eq_getElem hk, sumL_append]
  simp [bl, sumL]
  rfl
theorem sumTo_lt {s : Nat} (t : ByteArray) (k : Nat) (h : s < 4294967296) : sumTo s t k < 4294967296 := sumL_lt h (fun b hb => bl_lt t b (List.mem_of_mem_take hb))
def sumT (s : Nat) (t : ByteArray) : Nat := sumL s (bl t)
theorem sumTo_all (s : Nat) (t : ByteArray) : sumTo s t t.size = sumT s t := by unfold sumTo sumT; rw [← bl_length, List.take_length]
theorem sumT_lt {s : Nat} (t : ByteArray) (h : s < 4294967296) : sumT s t < 4294967296 := sumL_lt h (bl_lt t)

def halfN : Nat → Nat → Nat
  | 0, s => s
  | k + 1, s => half (halfN k s)
theorem halfN_lt {s : Nat} (h : s < 4294967296) : ∀ k, halfN k s < 4294967296
  | 0 => h
  | k + 1 => half_lt (halfN_lt h k)

theorem wf_u32 {n : Int} (h : (Lit.int .u32 n).wf = true) : 0 ≤ n ∧ n < 4294967296 := by
  have : 0 ≤ n ∧ n ≤ 4294967295 := by simpa [Lit.wf, IntKind.min, IntKind.max, IntKind.signed, IntKind.bits] using h
  omega

end Go.Proofs.YtgjamikmjknlfaaDoor

namespace Go.Proofs.YtgjamikmjknlfaaDoor
open Go.RowKit

/-- The four bytes of a sum, the highest first. -/
def four (x : Nat) : List Int := [(x : Int) / 16777216, (x : Int) / 65536 % 256, (x : Int) / 256 % 256, (x : Int) % 256]
theorem bstr_size (l : List Int) : (bstr l).size = l.length := by simp [bstr, ByteArray.size]

/-- string([]byte(a, b, c, d)) of a block just made. -/
theorem run_four_string (wr : World) (a b c d : Int) :
    (convert 42 9 (.slice (some ⟨wr.heap.size, 0, none⟩) 4 4)).run Tryd.prog (wr.alloc (.cells #[.int .u8 a, .int .u8 b, .int .u8 c, .int .u8 d] 5)) = .ok (.string (bstr [a, b, c, d])) (wr.alloc (.cells #[.int .u8 a, .int .u8 b, .int .u8 c, .int .u8 d] 5)) :=
  run_own_string (P := Tryd.prog) (B := 0) 42 9 (show ownsB (wr.alloc (.cells #[.int .u8 a, .int .u8 b, .int .u8 c, .int .u8 d] 5)) 0 5 (.slice (some ⟨wr.heap.size, 0, none⟩) 4 4) [a, b, c, d] from
    World.ownsRow_lit wr #[.int .u8 a, .int .u8 b, .int .u8 c, .int .u8 d] 4 (Nat.zero_le _) (by decide) rfl) Tryd.underlying42 Tryd.underlying5 Tryd.underlying9

/-- The four bytes that stand behind a text. -/
def tail4 (t : ByteArray) : ByteArray := bstr (four (sumT 4294967295 t))
def sealT (t : ByteArray) : ByteArray := t ++ tail4 t
theorem tail4_size (t : ByteArray) : (tail4 t).size = 4 := by unfold tail4; rw [bstr_size]; rfl
theorem run_seal (t : ByteArray) (h : t.size ≤ 20000) (wx : World) : (Op.stringOp .add t (bstr (four (sumT 4294967295 t)))).run Tryd.prog wx = .ok (.string (sealT t)) wx := by
  rw [run_string_add_sum wx _ _ (by rw [show (bstr (four (sumT 4294967295 t))).size = 4 from tail4_size t]; omega)]
  rfl

end Go.Proofs.YtgjamikmjknlfaaDoor

namespace Go.Proofs.YtgjamikmjknlfaaDoor
open Go.RowKit

theorem varI_length : ∀ (f n : Nat), n ≤ f → (varI n).length ≤ n + 1
  | 0, n, h => by rw [varI_last (by omega)]; simp
  | f + 1, n, h => by
    by_cases hn : 127 < n
    · rw [varI_more hn]
      have := varI_length f (n / 128) (by omega)
      simp; omega
    · rw [varI_last hn]; simp


set_option maxHeartbeats 400000 in
theorem short_bad (s : ByteArray) (w : World) (hs0 : s.size ≤ 9223372036854775807) (hs : 20000 < s.size) :
    Calls Tryd.prog 60 #[.string s] w fun e w' => e = .returned (.tuple #[.string ByteArray.empty, .bool false]) ∧ Below w.heap.size w w' := by
  go_enter Tryd.func60, Tryd.ntmps60
  go_wp2
  go_ret2
  exact ⟨rfl, Below.refl _ _⟩

set_option maxHeartbeats 400000 in
theorem short_ok (s : ByteArray) (w : World) (hs : s.size ≤ 20000) :
    Calls Tryd.prog 60 #[.string s] w fun e w' => e = .returned (.tuple #[.string (bstr (varI s.size) ++ s), .bool true]) ∧ Below w.heap.size w w' := by
  have hadd : ∀ wx, (Op.stringOp .add (bstr (varI s.size)) s).run Tryd.prog wx = .ok (.string (bstr (varI s.size) ++ s)) wx := fun wx => run_string_add_sum wx _ s (by
    have hl := varI_length _ _ (Nat.le_refl s.size)
    have hb := bstr_size (varI s.size)
    omega)
  go_enter Tryd.func60, Tryd.ntmps60
  go_wp2_with (go_at_call 56; refine (varText_ok _ _ (by omega)).mono ?_; rintro e w1 ⟨rfl, hb1⟩)
  go_ret2
  exact ⟨rfl, hb1⟩

end Go.Proofs.YtgjamikmjknlfaaDoor
