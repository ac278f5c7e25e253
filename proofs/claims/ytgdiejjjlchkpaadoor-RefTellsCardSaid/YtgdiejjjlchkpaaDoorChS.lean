/-
  The document's own answer for how wide a character is: size.
-/
import Derived.Test.YtgdiejjjlchkpaaDoorChR
import Derived.Laws.BitsLemmas
namespace Go.Proofs.YtgdiejjjlchkpaaDoor
open Go.RowKit

/-- The number that the first k bytes of a character say, if its first one says c0. -/
def vS (l : List UInt8) (c0 : Nat) : Nat → Nat
  | 0 => c0
  | 1 => c0
  | k + 2 => vS l c0 (k + 1) * 64 + (l.getD (k + 1) 0).toNat % 64
/-- The bytes behind the first one, up to k, go on. -/
def ConS (l : List UInt8) (k : Nat) : Prop := ∀ j, 1 ≤ j → j < k → (l.getD j 0).toNat / 64 = 2
theorem vS_step (l : List UInt8) (c0 k : Nat) (h : 1 ≤ k) : vS l c0 (k + 1) = vS l c0 k * 64 + (l.getD k 0).toNat % 64 := by
  cases k with
  | zero => omega
  | succ k => rfl
theorem vS_lt (l : List UInt8) (c0 : Nat) (h : c0 ≤ 31) : vS l c0 1 ≤ 31 ∧ vS l c0 2 ≤ 2047 ∧ vS l c0 3 ≤ 131071 ∧ vS l c0 4 ≤ 8388607 := by
  have h2 : vS l c0 2 = vS l c0 1 * 64 + (l.getD 1 0).toNat % 64 := rfl
  have h3 : vS l c0 3 = vS l c0 2 * 64 + (l.getD 2 0).toNat % 64 := rfl
  have h4 : vS l c0 4 = vS l c0 3 * 64 + (l.getD 3 0).toNat % 64 := rfl
  have h1 : vS l c0 1 = c0 := rfl
  omega
theorem u8_and192 : ∀ x : Nat, x < 256 → bits .and .u8 (x : Int) 192 = ((x / 64 * 64 : Nat) : Int) := by decide +kernel

theorem wdN_1 (n b0 b1 b2 b3 : Nat) (h : b0 < 194 ∨ 244 < b0) (hb : b0 < 256) : (Lib.decodeN n b0 b1 b2 b3).2 = 1 := by
  unfold Lib.decodeN
  repeat' split
  all_goals simp only []
  all_goals omega
theorem wdN_2 (n b0 b1 b2 b3 : Nat) (h1 : 194 ≤ b0) (h2 : b0 ≤ 223) : (Lib.decodeN n b0 b1 b2 b3).2 = if 1 < n ∧ b1 / 64 = 2 then 2 else 1 := by
  unfold Lib.decodeN
  repeat' split
  all_goals simp only []
  all_goals omega
theorem wdN_3 (n b0 b1 b2 b3 : Nat) (h1 : 224 ≤ b0) (h2 : b0 ≤ 239) : (Lib.decodeN n b0 b1 b2 b3).2 =
    if (1 < n ∧ b1 / 64 = 2) ∧ (2 < n ∧ b2 / 64 = 2) ∧ ¬ (b0 % 16 * 4096 + b1 % 64 * 64 + b2 % 64 < 2048 ∨ 55296 ≤ b0 % 16 * 4096 + b1 % 64 * 64 + b2 % 64 ∧ b0 % 16 * 4096 + b1 % 64 * 64 + b2 % 64 ≤ 57343) then 3 else 1 := by
  unfold Lib.decodeN
  repeat' split
  all_goals simp only []
  all_goals omega
theorem wdN_4 (n b0 b1 b2 b3 : Nat) (h1 : 240 ≤ b0) (h2 : b0 ≤ 244) : (Lib.decodeN n b0 b1 b2 b3).2 =
    if (1 < n ∧ b1 / 64 = 2) ∧ (2 < n ∧ b2 / 64 = 2) ∧ (3 < n ∧ b3 / 64 = 2) ∧
      ¬ (b0 % 8 * 262144 + b1 % 64 * 4096 + b2 % 64 * 64 + b3 % 64 < 65536 ∨ 1114111 < b0 % 8 * 262144 + b1 % 64 * 4096 + b2 % 64 * 64 + b3 % 64) then 4 else 1 := by
  unfold Lib.decodeN
  repeat' split
  all_goals simp only []
  all_goals omega

end Go.Proofs.YtgdiejjjlchkpaaDoor
