/-
  Days, as plain numbers: months' lengths, months counted from 1980 on, digits at a place of a text.
-/
import Derived.KernelRfl
namespace Go.Proofs.Ytpfmmmedhkgheaa

/-- Length of a month. -/
def lenM (y m : Nat) : Nat :=
  if m = 2 then (if y % 4 = 0 ∧ y ≠ 2100 then 29 else 28) else if m = 4 ∨ m = 6 ∨ m = 9 ∨ m = 11 then 30 else 31
theorem lenM_bound (y m : Nat) : 28 ≤ lenM y m ∧ lenM y m ≤ 31 := by unfold lenM; split <;> split <;> simp
/-- Length of the k-th month from January 1980 on. -/
def lenK (k : Nat) : Nat := lenM (1980 + k / 12) (k % 12 + 1)
/-- Days ahead of it. -/
def cum : Nat → Nat
  | 0 => 0
  | k + 1 => cum k + lenK k
theorem lenK_bound (k : Nat) : 28 ≤ lenK k ∧ lenK k ≤ 31 := lenM_bound _ _
theorem cum_mono {a b : Nat} (h : a ≤ b) : cum a ≤ cum b := by
  induction b with
  | zero => obtain rfl : a = 0 := by omega
            exact Nat.le_refl _
  | succ b ih =>
    by_cases e : a = b + 1
    · subst e; exact Nat.le_refl _
    · have := ih (by omega); rw [cum]; omega
theorem cum_lt {a b : Nat} (h : a < b) : cum a + lenK a ≤ cum b := cum_mono (a := a + 1) (by omega)
theorem cum_all : cum 1200 = 36525 := by decide +kernel
theorem cum_top {k n : Nat} (h : cum k ≤ n) (hn : n < 36525) : k < 1200 := by
  rcases Nat.lt_or_ge k 1200 with h1 | h1
  · exact h1
  · have := cum_mono h1; rw [cum_all] at this; omega
theorem cum_le {k : Nat} (h : k ≤ 1200) : cum k ≤ 36525 := by rw [← cum_all]; exact cum_mono h
/-- The k-th month's year and month. -/
theorem lenK_of {y m k : Nat} (hm : 1 ≤ m) (hm2 : m ≤ 12) (hk : k + 1 = 12 * (y - 1980) + m) (hy : 1980 ≤ y) : lenK k = lenM y m := by
  have h1 : 1980 + k / 12 = y := by omega
  have h2 : k % 12 + 1 = m := by omega
  rw [lenK, h1, h2]
/-- A day's month and day in it. -/
def monOf (n : Nat) : Nat → Nat → Nat × Nat
  | 0, k => (k, n)
  | f + 1, k => if n < cum (k + 1) then (k, n - cum k) else monOf n f (k + 1)
/-- Which day a date is, from 1980 on. -/
def dayN (y m d : Nat) : Nat := cum (12 * (y - 1980) + m - 1) + (d - 1)
def isDay (y m d : Int) : Bool := decide (1980 ≤ y) && decide (y ≤ 2079) && decide (1 ≤ m) && decide (m ≤ 12) && decide (1 ≤ d) && decide (d ≤ lenM y.toNat m.toNat)
def dayV (y m d : Int) : Int := if isDay y m d then (dayN y.toNat m.toNat d.toNat : Nat) else -1
theorem dayN_lt {y m d : Nat} (hy : 1980 ≤ y) (hy2 : y ≤ 2079) (hm : 1 ≤ m) (hm2 : m ≤ 12) (hd : 1 ≤ d) (hd2 : d ≤ lenM y m) : dayN y m d < 36525 := by
  have h1 := lenK_of (k := 12 * (y - 1980) + m - 1) hm hm2 (by omega) hy
  have h2 := cum_le (k := 12 * (y - 1980) + m - 1 + 1) (by omega)
  rw [cum, h1] at h2
  rw [dayN]; omega
/-- Dates' order is days' order. -/
theorem dayN_order {y m d y' m' d' : Nat} (hy : 1980 ≤ y) (hm : 1 ≤ m) (hm2 : m ≤ 12) (hd : 1 ≤ d) (hd2 : d ≤ lenM y m)
    (hy' : 1980 ≤ y') (hm' : 1 ≤ m') (hd' : 1 ≤ d') (hmm' : m' ≤ 12) (h : y < y' ∨ y = y' ∧ (m < m' ∨ m = m' ∧ d < d')) : dayN y m d < dayN y' m' d' := by
  rcases h with h | ⟨rfl, h | ⟨rfl, h⟩⟩
  · have h1 := lenK_of (k := 12 * (y - 1980) + m - 1) hm hm2 (by omega) hy
    have h2 := cum_lt (a := 12 * (y - 1980) + m - 1) (b := 12 * (y' - 1980) + m' - 1) (by omega)
    rw [dayN, dayN]; omega
  · have h1 := lenK_of (k := 12 * (y - 1980) + m - 1) hm hm2 (by omega) hy
    have h2 := cum_lt (a := 12 * (y - 1980) + m - 1) (b := 12 * (y - 1980) + m' - 1) (by omega)
    rw [dayN, dayN]; omega
  · rw [dayN, dayN]; omega

/-- The value of so many digits from a place on; none if there is another byte or an end. -/
def dgs (l : List UInt8) (f : Nat) : Nat → Option Nat
  | 0 => some 0
  | m + 1 => (dgs l f m).bind fun n => (l[f + m]?).bind fun c => if 48 ≤ c.toNat ∧ c.toNat ≤ 57 then some (10 * n + (c.toNat - 48)) else none
def dgV (l : List UInt8) (f m : Nat) : Int := match dgs l f m with | some n => (n : Int) | none => -1
theorem dgs_bound {l : List UInt8} {f m n : Nat} (h : dgs l f m = some n) : n < 10 ^ m := by
  induction m generalizing n with
  | zero => simp [dgs] at h; omega
  | succ m ih =>
    rw [dgs] at h
    obtain ⟨n0, h0, h1⟩ := Option.bind_eq_some_iff.1 h
    obtain ⟨c, hc, h2⟩ := Option.bind_eq_some_iff.1 h1
    have := ih h0
    split at h2
    · have e : 10 * n0 + (c.toNat - 48) = n := by simpa using h2
      rw [Nat.pow_succ]; omega
    · simp at h2
theorem dgs_none {l : List UInt8} {f m k : Nat} (h : dgs l f k = none) (hk : k ≤ m) : dgs l f m = none := by
  induction m with
  | zero => obtain rfl : k = 0 := by omega
            exact h
  | succ m ih =>
    by_cases e : k = m + 1
    · subst e; exact h
    · rw [dgs, ih (by omega)]; rfl
theorem dgV_some {l : List UInt8} {f m n : Nat} (h : dgs l f m = some n) : dgV l f m = (n : Int) := by rw [dgV, h]
theorem dgV_none {l : List UInt8} {f m k : Nat} (h : dgs l f k = none) (hk : k ≤ m) : dgV l f m = -1 := by rw [dgV, dgs_none h hk]
theorem dgs_end {l : List UInt8} {f k n : Nat} (h : dgs l f k = some n) (he : l.length ≤ f + k) : dgs l f (k + 1) = none := by
  rw [dgs, h]
  simp [List.getElem?_eq_none he]
theorem dgs_bad {l : List UInt8} {f k n : Nat} {c : UInt8} (h : dgs l f k = some n) (hc : l[f + k]? = some c) (hb : c.toNat < 48 ∨ 57 < c.toNat) : dgs l f (k + 1) = none := by
  rw [dgs, h]
  simp only [Option.bind_some, hc]
  rw [if_neg (by omega)]
theorem dgs_next {l : List UInt8} {f k n : Nat} {c : UInt8} (h : dgs l f k = some n) (hc : l[f + k]? = some c) (h1 : 48 ≤ c.toNat) (h2 : c.toNat ≤ 57) : dgs l f (k + 1) = some (10 * n + (c.toNat - 48)) := by
  rw [dgs, h]
  simp only [Option.bind_some, hc]
  rw [if_pos ⟨h1, h2⟩]

/-- A number's digits, so many. -/
def twoL : Nat → Nat → List UInt8
  | _, 0 => []
  | n, w + 1 => twoL (n / 10) w ++ [UInt8.ofNat (48 + n % 10)]
theorem twoL_len (n w : Nat) : (twoL n w).length = w := by
  induction w generalizing n with
  | zero => rfl
  | succ w ih => rw [twoL, List.length_append, ih]; rfl
/-- The text of a date. -/
def dateL (y m d : Nat) : List UInt8 := twoL y 4 ++ [45] ++ twoL m 2 ++ [45] ++ twoL d 2
theorem dateL_len (y m d : Nat) : (dateL y m d).length = 10 := by simp [dateL, twoL_len]
end Go.Proofs.Ytpfmmmedhkgheaa
