/-
  Characters, as plain lists: the sets X, Y, Z; how wide a text's first character is; its characters; what is substituted.
-/
import Derived.Test.YtgdiejjjlchkpaaDoorIbN
import Derived.Lib.DecodeN
namespace Go.Proofs.YtgdiejjjlchkpaaDoor

def lowC (c : UInt8) : Bool := decide (97 ≤ c.toNat) && decide (c.toNat ≤ 122)
/-- A letter, or a digit; small ones, too. -/
def plainV (c : UInt8) (small : Bool) : Bool := ibOk c || (small && lowC c)
def setX : List UInt8 := [47, 45, 63, 58, 40, 41, 46, 44, 39, 43, 32]
def setY : List UInt8 := [32, 46, 44, 45, 40, 41, 47, 61, 39, 43, 58, 63, 33, 34, 37, 38, 42, 60, 62, 59]
def setZ : List UInt8 := [47, 45, 63, 58, 40, 41, 46, 44, 39, 43, 32, 61, 33, 34, 37, 38, 42, 60, 62, 59, 64, 35, 95, 123]
/-- Is a byte of X, of Y, of Z? -/
def inX (c : UInt8) : Bool := plainV c true || setX.contains c
def inY (c : UInt8) : Bool := plainV c false || setY.contains c
def inZ (c : UInt8) : Bool := plainV c true || setZ.contains c
def inV (s : Nat) (c : UInt8) : Bool := if s = 88 then inX c else if s = 89 then inY c else if s = 90 then inZ c else false

/-- How many bytes a text's first character has (a byte that begins none: 1). -/
def wd (l : List UInt8) : Nat := (Lib.decodeN l.length (l.getD 0 0).toNat (l.getD 1 0).toNat (l.getD 2 0).toNat (l.getD 3 0).toNat).2
theorem decodeN_width (n b0 b1 b2 b3 : Nat) (h : 1 ≤ n) : 1 ≤ (Lib.decodeN n b0 b1 b2 b3).2 ∧ (Lib.decodeN n b0 b1 b2 b3).2 ≤ n ∧ (Lib.decodeN n b0 b1 b2 b3).2 ≤ 4 := by
  unfold Lib.decodeN
  repeat' split
  all_goals simp only []
  all_goals omega
theorem wd_pos {l : List UInt8} (h : l ≠ []) : 1 ≤ wd l ∧ wd l ≤ l.length ∧ wd l ≤ 4 :=
  decodeN_width _ _ _ _ _ (by cases l with | nil => exact absurd rfl h | cons => simp)

/-- The characters of a text, as pieces of it. -/
def charsF : Nat → List UInt8 → List (List UInt8)
  | 0, _ => []
  | n + 1, l => if l = [] then [] else l.take (wd l) :: charsF n (l.drop (wd l))
def charsL (l : List UInt8) : List (List UInt8) := charsF l.length l
theorem charsF_enough : ∀ (n m : Nat) (l : List UInt8), l.length ≤ n → l.length ≤ m → charsF n l = charsF m l
  | 0, 0, _, _, _ => rfl
  | 0, m + 1, l, h, _ => by
    obtain rfl : l = [] := List.eq_nil_of_length_eq_zero (by omega)
    simp [charsF]
  | n + 1, 0, l, _, h => by
    obtain rfl : l = [] := List.eq_nil_of_length_eq_zero (by omega)
    simp [charsF]
  | n + 1, m + 1, l, h, h' => by
    by_cases e : l = []
    · rw [charsF, charsF, if_pos e, if_pos e]
    · have hw := wd_pos e
      rw [charsF, charsF, if_neg e, if_neg e, charsF_enough n m _ (by simp; omega) (by simp; omega)]
theorem charsL_nil : charsL [] = [] := rfl
theorem charsL_cons {l : List UInt8} (h : l ≠ []) : charsL l = l.take (wd l) :: charsL (l.drop (wd l)) := by
  have hw := wd_pos h
  cases l with
  | nil => exact absurd rfl h
  | cons c l =>
    have : charsL (c :: l) = charsF (l.length + 1) (c :: l) := rfl
    rw [this, charsF, if_neg h, charsL, charsF_enough l.length _ _ (by simp at hw ⊢; omega) (Nat.le_refl _)]
theorem charsL_len : ∀ (n : Nat) (l : List UInt8), l.length ≤ n → (charsL l).length ≤ l.length
  | n, [], _ => by rw [charsL_nil]; exact Nat.le_refl _
  | 0, c :: l, h => by simp at h
  | n + 1, c :: l, h => by
    have hw := wd_pos (l := c :: l) (by simp)
    rw [charsL_cons (by simp)]
    have := charsL_len n ((c :: l).drop (wd (c :: l))) (by simp at h hw ⊢; omega)
    simp only [List.length_cons, List.length_drop] at this hw ⊢
    omega
/-- What a character becomes. -/
def subC (p : List UInt8) : UInt8 := match p with | [c] => if inX c then c else 46 | _ => 46
/-- The text, substituted. -/
def subL (l : List UInt8) : List UInt8 := (charsL l).map subC
end Go.Proofs.YtgdiejjjlchkpaaDoor
