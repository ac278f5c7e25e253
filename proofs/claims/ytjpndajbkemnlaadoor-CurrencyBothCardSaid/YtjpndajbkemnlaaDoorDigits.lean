/-
  Plain lists: what digits say; the numeral of a number; the first place of a byte.
-/
import Derived.Test.YtjpndajbkemnlaaDoorPlain
import Derived.Lib.ItoaNum
import Derived.Lib.Repeat
import Derived.Lib.IndexLaws
namespace Go.Proofs.YtjpndajbkemnlaaDoor

theorem valL_from (l : List UInt8) : ∀ a : Int, l.foldl (fun a c => 10 * a + ((c.toNat : Int) - 48)) a = a * p10 l.length + valL l := by
  unfold valL
  induction l with
  | nil => intro a; simp [p10]
  | cons c l ih =>
    intro a
    have h1 := ih (10 * a + ((c.toNat : Int) - 48))
    have h2 := ih (10 * 0 + ((c.toNat : Int) - 48))
    simp only [List.foldl_cons, List.length_cons]
    rw [h1, h2]
    show _ = a * (p10 l.length * 10) + _
    rw [Int.add_mul, Int.mul_comm 10 a, Int.mul_assoc, Int.mul_comm 10 (p10 l.length)]
    simp only [Int.mul_zero, Int.zero_add]
    omega
theorem valL_append (a b : List UInt8) : valL (a ++ b) = valL a * p10 b.length + valL b := by
  rw [valL, List.foldl_append]
  exact valL_from b _
theorem valL_bd : ∀ {l : List UInt8}, l.all isDgC = true → 0 ≤ valL l ∧ valL l < p10 l.length := by
  intro l
  suffices h : ∀ n (l : List UInt8), l.length = n → l.all isDgC = true → 0 ≤ valL l ∧ valL l < p10 n from fun hl => h _ l rfl hl
  intro n
  induction n with
  | zero =>
    intro l hl _
    obtain rfl := List.eq_nil_of_length_eq_zero hl
    exact ⟨Int.le_refl _, by decide⟩
  | succ n ih =>
    intro l hl hd
    rcases List.eq_nil_or_concat l with rfl | ⟨zs, x, rfl⟩
    · simp at hl
    · rw [List.concat_eq_append] at hl hd ⊢
      rw [List.all_append, Bool.and_eq_true] at hd
      have h := ih zs (by simpa using hl) hd.1
      have hx : isDgC x = true := by simpa using hd.2
      simp [isDgC] at hx
      rw [valL_snoc]
      show _ ∧ _ < p10 n * 10
      omega

theorem digits_all : ∀ u : Nat, (Lib.decDigits u).all isDgC = true := by
  intro u
  induction u using Nat.strongRecOn with
  | _ u ih =>
    have hb : ∀ k, k < 10 → isDgC (UInt8.ofNat (48 + k)) = true := by decide
    rw [Lib.decDigits]
    by_cases h : u < 10
    · rw [dif_pos h]; simpa using hb u h
    · rw [dif_neg h, List.all_append, ih (u / 10) (by omega)]
      simpa using hb (u % 10) (by omega)
theorem digits_val : ∀ u : Nat, valL (Lib.decDigits u) = u := by
  intro u
  induction u using Nat.strongRecOn with
  | _ u ih =>
    have hb : ∀ k, k < 10 → (UInt8.ofNat (48 + k)).toNat = 48 + k := by decide
    rw [Lib.decDigits]
    by_cases h : u < 10
    · rw [dif_pos h]
      simp only [valL, List.foldl_cons, List.foldl_nil]
      rw [hb u h]; omega
    · rw [dif_neg h, valL_snoc, ih (u / 10) (by omega), hb (u % 10) (by omega)]; omega
theorem noughts_all : ∀ k, (Lib.repeatL [48] k).all isDgC = true
  | 0 => rfl
  | k + 1 => by rw [Lib.repeatL, List.all_append, noughts_all k]; rfl
theorem noughts_val : ∀ k, valL (Lib.repeatL [48] k) = 0
  | 0 => rfl
  | k + 1 => by
    rw [Lib.repeatL, valL_append, noughts_val k]
    have : valL [48] = 0 := by decide
    rw [this]; omega

theorem p10_nat (k : Nat) : p10 k = ((10 ^ k : Nat) : Int) := by
  induction k with
  | zero => rfl
  | succ k ih => show p10 k * 10 = _; rw [ih, Nat.pow_succ]; omega
theorem nDigits_of_lt : ∀ (k u : Nat), u < 10 ^ (k + 1) → Lib.nDigits u ≤ k + 1
  | 0, u, h => by rw [Lib.nDigits, dif_pos (by simpa using h)]; omega
  | k + 1, u, h => by
    rw [Lib.nDigits]
    by_cases hu : u < 10
    · rw [dif_pos hu]; omega
    · rw [dif_neg hu]
      have := nDigits_of_lt k (u / 10) (by rw [Nat.pow_succ] at h; omega)
      omega
/-- Of a text of digits that is not empty: what it says has no more digits. -/
theorem digits_of_val {l : List UInt8} {c : Nat} (hl : l.all isDgC = true) (h0 : 1 ≤ l.length) (hv : valL l = c) : Lib.nDigits c ≤ l.length := by
  have h := (valL_bd hl).2
  rw [hv, p10_nat] at h
  have h2 : c < 10 ^ ((l.length - 1) + 1) := by
    rw [Nat.sub_add_cancel h0]; exact Int.ofNat_lt.1 h
  have := nDigits_of_lt _ _ h2
  omega

theorem index_behind (c : UInt8) (hc : isDgC c = false) (b : List UInt8) : ∀ a : List UInt8, a.all isDgC = true → Lib.indexByte (a ++ c :: b) c = a.length
  | [], _ => by simp [Lib.indexByte]
  | x :: a, h => by
    rw [List.all_cons, Bool.and_eq_true] at h
    have hx : x ≠ c := by rintro rfl; rw [hc] at h; exact absurd h.1 (by decide)
    have := index_behind c hc b a h.2
    simp only [List.cons_append, Lib.indexByte, List.length_cons]
    rw [this]
    simp [hx]
theorem index_nowhere (c : UInt8) (hc : isDgC c = false) : ∀ a : List UInt8, a.all isDgC = true → Lib.indexByte a c = -1
  | [], _ => by simp [Lib.indexByte]
  | x :: a, h => by
    rw [List.all_cons, Bool.and_eq_true] at h
    have hx : x ≠ c := by rintro rfl; rw [hc] at h; exact absurd h.1 (by decide)
    have := index_nowhere c hc a h.2
    simp [Lib.indexByte, hx, this]
end Go.Proofs.YtjpndajbkemnlaaDoor
