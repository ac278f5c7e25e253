/-
  References, as plain lists: references, identifications, UETRs; the UETR of a number.
-/
import Derived.Test.YtgdiejjjlchkpaaDoorChN
namespace Go.Proofs.YtgdiejjjlchkpaaDoor

/-- May a byte stand at a place of a reference? -/
def rfAt (l : List UInt8) (i : Nat) : Bool := inX (l.getD i 0) && !(decide (l.getD i 0 = 47) && (decide (i = 0) || decide (i + 1 = l.length) || decide (l.getD (i - 1) 0 = 47)))
def rfTo (l : List UInt8) (k : Nat) : Bool := (List.range k).all (rfAt l)
/-- A reference of at most so many. -/
def rfV (l : List UInt8) (m : Nat) : Bool := decide (1 ≤ l.length) && (decide (l.length ≤ m) && rfTo l l.length)
theorem rfTo_zero (l : List UInt8) : rfTo l 0 = true := rfl
theorem rfTo_succ (l : List UInt8) (k : Nat) : rfTo l (k + 1) = (rfTo l k && rfAt l k) := by
  simp [rfTo, List.range_succ]
theorem rf_more {l : List UInt8} (h : rfV l 16 = true) : rfV l 35 = true := by
  simp only [rfV, Bool.and_eq_true, decide_eq_true_eq] at h ⊢
  exact ⟨h.1, by omega, h.2.2⟩
/-- OK, or ErrRef. -/
def errR (b : Bool) : Int := if b then 0 else 17

/-- A digit of a UETR. -/
def hxV (c : UInt8) : Bool := (decide (48 ≤ c.toNat) && decide (c.toNat ≤ 57)) || (decide (97 ≤ c.toNat) && decide (c.toNat ≤ 102))
/-- May a byte stand at a place of a UETR? -/
def utAt (i : Nat) (c : UInt8) : Bool :=
  if i = 8 ∨ i = 13 ∨ i = 18 ∨ i = 23 then decide (c = 45) else if i = 14 then decide (c = 52) else if i = 19 then (decide (c = 56) || decide (c = 57) || decide (c = 97) || decide (c = 98)) else hxV c
def utTo (l : List UInt8) (k : Nat) : Bool := (List.range k).all (fun i => utAt i (l.getD i 0))
def utV (l : List UInt8) : Bool := decide (l.length = 36) && utTo l l.length
theorem utTo_succ (l : List UInt8) (k : Nat) : utTo l (k + 1) = (utTo l k && utAt k (l.getD k 0)) := by
  simp [utTo, List.range_succ]

/-- A digit's byte. -/
def hxC (d : Nat) : UInt8 := if d < 10 then UInt8.ofNat (48 + d) else UInt8.ofNat (87 + d)
/-- A number's digit, the highest first. -/
def hx (n i : Nat) : UInt8 := hxC (n / 16 ^ (15 - i) % 16)
def hxs (n : Nat) : List UInt8 := [hx n 0, hx n 1, hx n 2, hx n 3, hx n 4, hx n 5, hx n 6, hx n 7, hx n 8, hx n 9, hx n 10, hx n 11, hx n 12, hx n 13, hx n 14, hx n 15]
/-- The UETR of a number. -/
def mkL (n : Nat) : List UInt8 :=
  [hx n 0, hx n 1, hx n 2, hx n 3, hx n 4, hx n 5, hx n 6, hx n 7, 45, hx n 8, hx n 9, hx n 10, hx n 11, 45, 52, hx n 12, hx n 13, hx n 14, 45, 56, hx n 15, 48, 48, 45, 48, 48, 48, 48, 48, 48, 48, 48, 48, 48, 48, 48]
theorem mk_len (n : Nat) : (mkL n).length = 36 := rfl
theorem hxC_v : ∀ d : Nat, d < 16 → hxV (hxC d) = true := by decide +kernel
theorem hx_v (n i : Nat) : hxV (hx n i) = true := hxC_v _ (Nat.mod_lt _ (by decide))
theorem mk_ut (n : Nat) : utV (mkL n) = true := by
  have h := hx_v n
  simp [utV, utTo, mkL, utAt, List.range, List.range.loop, h, show hxV 48 = true from rfl]
/-- What a digit's byte is worth. -/
def hxN (c : UInt8) : Nat := if 97 ≤ c.toNat then c.toNat - 87 else c.toNat - 48
theorem hxC_n : ∀ d : Nat, d < 16 → hxN (hxC d) = d := by decide +kernel
theorem hx_n (n i : Nat) : hxN (hx n i) = n / 16 ^ (15 - i) % 16 := hxC_n _ (Nat.mod_lt _ (by decide))
/-- The worth of the first k digits. -/
theorem hx_step (n k : Nat) (h : k < 16) : 16 * (n / 16 ^ (16 - k)) + hxN (hx n k) = n / 16 ^ (16 - (k + 1)) := by
  rw [hx_n]
  have e : 16 ^ (16 - k) = 16 ^ (15 - k) * 16 := by rw [← Nat.pow_succ]; congr 1; omega
  rw [e, ← Nat.div_div_eq_div_mul, show 16 - (k + 1) = 15 - k by omega]
  omega
theorem hxs_at (n k : Nat) (h : k < 16) : (hxs n).getD k 0 = hx n k := by
  match k, h with
  | 0, _ | 1, _ | 2, _ | 3, _ | 4, _ | 5, _ | 6, _ | 7, _ | 8, _ | 9, _ | 10, _ | 11, _ | 12, _ | 13, _ | 14, _ | 15, _ => rfl
  | k + 16, h => exact absurd h (by omega)
theorem mk_inj {n m : Nat} (hn : n < 18446744073709551616) (hm : m < 18446744073709551616) (h : mkL n = mkL m) : n = m := by
  have hd : ∀ k, k < 16 → hx n k = hx m k := by
    intro k hk
    have e : hxs n = hxs m := by
      simp only [mkL, List.cons.injEq] at h
      simp only [hxs, h]
    rw [← hxs_at n k hk, ← hxs_at m k hk, e]
  have go : ∀ k, k ≤ 16 → n / 16 ^ (16 - k) = m / 16 ^ (16 - k) := by
    intro k
    induction k with
    | zero =>
      intro _
      rw [Nat.div_eq_of_lt (by simpa using hn), Nat.div_eq_of_lt (by simpa using hm)]
    | succ k ih =>
      intro hk
      rw [← hx_step n k (by omega), ← hx_step m k (by omega), ih (by omega), hd k (by omega)]
  simpa using go 16 (Nat.le_refl _)
theorem mk_iff {n m : Nat} (hn : n < 18446744073709551616) (hm : m < 18446744073709551616) : mkL n = mkL m ↔ n = m := ⟨mk_inj hn hm, fun h => by rw [h]⟩
end Go.Proofs.YtgdiejjjlchkpaaDoor
