/-
  The sum as arithmetic: half of a number, exclusive-or the fixed number when it was odd; four of these at once by a table of sixteen; each is one to one below 2^32.
-/
namespace Go.Proofs.YtingfgbcinlflaaGreatDoor
/-- half of a sum, exclusive-or the fixed number when it was odd -/
def msk (r : Nat) : Nat := if r % 2 = 1 then 3558460437 else 0
def half (s : Nat) : Nat := s / 2 ^^^ msk s
theorem msk_xor (a b : Nat) : msk (a ^^^ b) = msk a ^^^ msk b := by
  unfold msk
  have h : (a ^^^ b) % 2 = (a % 2) ^^^ (b % 2) := Nat.xor_mod_two_pow (a := a) (b := b) (n := 1)
  rcases Nat.mod_two_eq_zero_or_one a with ha | ha <;> rcases Nat.mod_two_eq_zero_or_one b with hb | hb <;> rw [h, ha, hb] <;> decide
theorem half_xor (a b : Nat) : half (a ^^^ b) = half a ^^^ half b := by
  unfold half
  rw [msk_xor, Nat.xor_div_two]
  ac_rfl
theorem msk_lt (r : Nat) : msk r < 4294967296 := by unfold msk; split <;> omega
theorem half_lt {s : Nat} (h : s < 4294967296) : half s < 4294967296 := by
  unfold half
  have := msk_lt s
  exact Nat.xor_lt_two_pow (n := 32) (by omega) (by omega)
theorem half_inj {a b : Nat} (ha : a < 4294967296) (hb : b < 4294967296) (h : half a = half b) : a = b := by
  unfold half at h
  have h31 := congrArg (fun n => n.testBit 31) h
  simp only [Nat.testBit_xor] at h31
  rw [Nat.testBit_lt_two_pow (x := a / 2) (i := 31) (by omega), Nat.testBit_lt_two_pow (x := b / 2) (i := 31) (by omega)] at h31
  have hm : a % 2 = b % 2 := by
    unfold msk at h31
    rcases Nat.mod_two_eq_zero_or_one a with h1 | h1 <;> rcases Nat.mod_two_eq_zero_or_one b with h2 | h2 <;> rw [h1, h2] at h31 <;> first | (exfalso; revert h31; decide) | omega
  have hk : msk a = msk b := by unfold msk; rw [hm]
  rw [hk] at h
  have h3 := congrArg (· ^^^ msk b) h
  simp only [Nat.xor_assoc, Nat.xor_self, Nat.xor_zero] at h3
  omega
def half4 (s : Nat) : Nat := half (half (half (half s)))
def half8 (s : Nat) : Nat := half4 (half4 s)
def tab : List Nat := [0x00000000, 0x4589ac8d, 0x8b13591a, 0xce9af597,
  0xbe152a1f, 0xfb9c8692, 0x35067305, 0x708fdf88,
  0xd419cc15, 0x91906098, 0x5f0a950f, 0x1a833982,
  0x6a0ce60a, 0x2f854a87, 0xe11fbf10, 0xa496139d]
theorem msk_mod (s : Nat) : msk s = msk (s % 2) := by unfold msk; rw [Nat.mod_mod]
theorem half4_open (s : Nat) : half4 s = s / 16 ^^^ (msk (s / 8) ^^^ half (msk (s / 4)) ^^^ half (half (msk (s / 2))) ^^^ half (half (half (msk s)))) := by
  have e (x : Nat) : half x = x / 2 ^^^ msk x := rfl
  unfold half4
  rw [e s, half_xor, half_xor, half_xor, e (s / 2), half_xor, half_xor, e (s / 2 / 2), half_xor, e (s / 2 / 2 / 2)]
  simp only [Nat.div_div_eq_div_mul]
  ac_rfl
theorem tab_is : ∀ r < 16, (msk (r / 8) ^^^ half (msk (r / 4)) ^^^ half (half (msk (r / 2))) ^^^ half (half (half (msk r)))) = tab.getD r 0 := by decide +kernel
theorem half4_tab (s : Nat) : half4 s = s / 16 ^^^ tab.getD (s % 16) 0 := by
  rw [half4_open, ← tab_is (s % 16) (by omega)]
  rw [msk_mod (s / 8), msk_mod (s / 4), msk_mod (s / 2), msk_mod s, msk_mod (s % 16 / 8), msk_mod (s % 16 / 4), msk_mod (s % 16 / 2), msk_mod (s % 16)]
  rw [show s % 16 / 8 % 2 = s / 8 % 2 by omega, show s % 16 / 4 % 2 = s / 4 % 2 by omega, show s % 16 / 2 % 2 = s / 2 % 2 by omega, show s % 16 % 2 = s % 2 by omega]
theorem half4_lt {s : Nat} (h : s < 4294967296) : half4 s < 4294967296 := half_lt (half_lt (half_lt (half_lt h)))
theorem half8_lt {s : Nat} (h : s < 4294967296) : half8 s < 4294967296 := half4_lt (half4_lt h)
theorem half4_inj {a b : Nat} (ha : a < 4294967296) (hb : b < 4294967296) (h : half4 a = half4 b) : a = b :=
  half_inj ha hb (half_inj (half_lt ha) (half_lt hb) (half_inj (half_lt (half_lt ha)) (half_lt (half_lt hb)) (half_inj (half_lt (half_lt (half_lt ha))) (half_lt (half_lt (half_lt hb))) h)))
theorem half8_inj {a b : Nat} (ha : a < 4294967296) (hb : b < 4294967296) (h : half8 a = half8 b) : a = b := half4_inj ha hb (half4_inj (half4_lt ha) (half4_lt hb) h)

/-- The sum behind one byte more, and behind a row of bytes. -/
def more (s b : Nat) : Nat := half8 (s ^^^ b)
def sumL (s : Nat) (l : List Nat) : Nat := l.foldl more s
theorem more_lt {s b : Nat} (h : s < 4294967296) (hb : b < 256) : more s b < 4294967296 := half8_lt (Nat.xor_lt_two_pow (n := 32) (by omega) (by omega))
theorem sumL_lt : ∀ {l : List Nat} {s : Nat}, s < 4294967296 → (∀ b ∈ l, b < 256) → sumL s l < 4294967296
  | [], _, h, _ => h
  | b :: l, s, h, hb => sumL_lt (l := l) (s := more s b) (more_lt h (hb b (by simp))) (fun c hc => hb c (by simp [hc]))
theorem sumL_append (s : Nat) (l m : List Nat) : sumL s (l ++ m) = sumL (sumL s l) m := List.foldl_append ..
theorem xor_cancel {a b c : Nat} (h : a ^^^ c = b ^^^ c) : a = b := by
  have h3 := congrArg (· ^^^ c) h
  simpa only [Nat.xor_assoc, Nat.xor_self, Nat.xor_zero] using h3
theorem more_inj {a b c : Nat} (ha : a < 4294967296) (hb : b < 4294967296) (hc : c < 256) (h : more a c = more b c) : a = b :=
  xor_cancel (half8_inj (Nat.xor_lt_two_pow (n := 32) (by omega) (by omega)) (Nat.xor_lt_two_pow (n := 32) (by omega) (by omega)) h)
theorem more_byte {s b c : Nat} (hs : s < 4294967296) (hb : b < 256) (hc : c < 256) (h : more s b = more s c) : b = c := by
  have := half8_inj (Nat.xor_lt_two_pow (n := 32) (by omega) (by omega)) (Nat.xor_lt_two_pow (n := 32) (by omega) (by omega)) h
  rw [Nat.xor_comm s b, Nat.xor_comm s c] at this
  exact xor_cancel this
theorem sumL_inj : ∀ {l : List Nat} {a b : Nat}, a < 4294967296 → b < 4294967296 → (∀ c ∈ l, c < 256) → sumL a l = sumL b l → a = b
  | [], _, _, _, _, _, h => h
  | c :: l, a, b, ha, hb, hl, h => more_inj ha hb (hl c (by simp)) (sumL_inj (l := l) (more_lt ha (hl c (by simp))) (more_lt hb (hl c (by simp))) (fun d hd => hl d (by simp [hd])) h)
/-- One byte turned: another sum. -/
theorem sumL_turned {s b c : Nat} {l m : List Nat} (hs : s < 4294967296) (hl : ∀ x ∈ l, x < 256) (hm : ∀ x ∈ m, x < 256) (hb : b < 256) (hc : c < 256)
    (h : sumL s (l ++ b :: m) = sumL s (l ++ c :: m)) : b = c := by
  rw [sumL_append, sumL_append] at h
  have h2 := sumL_lt hs hl
  exact more_byte h2 hb hc (sumL_inj (l := m) (more_lt h2 hb) (more_lt h2 hc) hm h)
end Go.Proofs.YtingfgbcinlflaaGreatDoor
