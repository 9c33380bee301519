/-
  Sums: the walks.
-/
import Derived.Test.YtkfhmeiiicidaaaDoorRows
import Derived.Test.YtkfhmeiiicidaaaDoorAid
import Derived.Test.YtkfhmeiiicidaaaDoorCrc
import Derived.WalkKit
import Derived.WalkSpells
import Derived.WalkLawsBesides
import Derived.Handy
import Derived.Laws.BitsAllLaws
import Derived.Lib.LaidTab
namespace Go.Proofs.YtkfhmeiiicidaaaDoor
open Go.RowKit

def tabI : List Int := [0, 1166650509, 2333301018, 3466261911, 3189058079, 4221339282, 889615109, 1888477064, 3558460437, 2442158232, 1594529039, 444807554, 1779230218, 797264519, 3776954128, 2761298845]
theorem tabI_is : tabI = tab.map fun (n : Nat) => (n : Int) := by decide
def TableIs (w : World) : Prop := Lib.TabIs Tryd.prog w "loop.example/g00188/impl.sumTable" .u32 tabI
def tabAt (r : Nat) : Nat := tab.getD r 0
theorem tab_lt (r : Nat) (h : r < 16) : tabAt r < 4294967296 := (show ∀ r < 16, tab.getD r 0 < 4294967296 by decide +kernel) r h
/-- The bytes of a text as numbers; the sum of a text behind a sum. -/
def bl (t : ByteArray) : List Nat := t.data.toList.map UInt8.toNat
theorem bl_length (t : ByteArray) : (bl t).length = t.size := by unfold bl; rw [List.length_map]; rfl
theorem bl_lt (t : ByteArray) : ∀ b ∈ bl t, b < 256 := by
  intro b hb
  simp only [bl, List.mem_map] at hb
  obtain ⟨u, _, rfl⟩ := hb
  exact u.toNat_lt
def sumTo (s : Nat) (t : ByteArray) (k : Nat) : Nat := sumL s ((bl t).take k)
theorem sumTo_zero (s : Nat) (t : ByteArray) : sumTo s t 0 = s := rfl
theorem sumTo_step {s : Nat} {t : ByteArray} {k : Nat} (h : k < t.size) : sumTo s t (k + 1) = more (sumTo s t k) t[k].toNat := by
  unfold sumTo
  have hk : k < (bl t).length := by rw [bl_length]; exact h
  rw [List.take_add_one, List.getElem?_eq_getElem hk, sumL_append]
  simp [bl, sumL]
  rfl
theorem sumTo_lt {s : Nat} (t : ByteArray) (k : Nat) (h : s < 4294967296) : sumTo s t k < 4294967296 := sumL_lt h (fun b hb => bl_lt t b (List.mem_of_mem_take hb))
def sumT (s : Nat) (t : ByteArray) : Nat := sumL s (bl t)
theorem sumTo_all (s : Nat) (t : ByteArray) : sumTo s t t.size = sumT s t := by unfold sumTo sumT; rw [← bl_length, List.take_length]
theorem sumT_lt {s : Nat} (t : ByteArray) (h : s < 4294967296) : sumT s t < 4294967296 := sumL_lt h (bl_lt t)

def halfN : Nat → Nat → Nat
  | 0, s => s
  | k + 1, s => half (halfN k s)
theorem halfN_lt {s : Nat} (h : s < 4294967296) : ∀ k, halfN k s < 4294967296
  | 0 => h
  | k + 1 => half_lt (halfN_lt h k)

theorem wf_u32 {n : Int} (h : (Lit.int .u32 n).wf = true) : 0 ≤ n ∧ n < 4294967296 := by
  have : 0 ≤ n ∧ n ≤ 4294967295 := by simpa [Lit.wf, IntKind.min, IntKind.max, IntKind.signed, IntKind.bits] using h
  omega

end Go.Proofs.YtkfhmeiiicidaaaDoor
