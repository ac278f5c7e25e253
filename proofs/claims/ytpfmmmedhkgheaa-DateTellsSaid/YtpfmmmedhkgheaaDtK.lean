/-
  Days' two texts, as plain lists: each the other's.
-/
import Derived.Test.YtpfmmmedhkgheaaDtX
namespace Go.Proofs.Ytpfmmmedhkgheaa

/-- The text of XML of a day's text of the MT family. -/
def toX (l : List UInt8) : List UInt8 := (if 80 ≤ dgV l 0 2 then [49, 57] else [50, 48]) ++ (l.take 2 ++ ([45] ++ ((l.drop 2).take 2 ++ ([45] ++ l.drop 4))))
/-- The text of the MT family of a day's text of XML. -/
def toM (l : List UInt8) : List UInt8 := (l.drop 2).take 2 ++ ((l.drop 5).take 2 ++ l.drop 8)
theorem six {l : List UInt8} (h : l.length = 6) : ∃ a b c d e f, l = [a, b, c, d, e, f] := by
  match l, h with
  | [a, b, c, d, e, f], _ => exact ⟨a, b, c, d, e, f, rfl⟩
theorem ten {l : List UInt8} (h : l.length = 10) : ∃ a b c d e f g i j k, l = [a, b, c, d, e, f, g, i, j, k] := by
  match l, h with
  | [a, b, c, d, e, f, g, i, j, k], _ => exact ⟨a, b, c, d, e, f, g, i, j, k, rfl⟩
/-- Two digits ahead of two. -/
theorem dgV_ahead (x y a b : UInt8) (r r2 : List UInt8) (n : Nat) (hx : 48 ≤ x.toNat ∧ x.toNat ≤ 57) (hy : 48 ≤ y.toNat ∧ y.toNat ≤ 57) (hn : 10 * (x.toNat - 48) + (y.toNat - 48) = n) (h : 0 ≤ dgV (a :: b :: r2) 0 2) :
    dgV (x :: y :: a :: b :: r) 0 4 = 100 * n + dgV (a :: b :: r2) 0 2 := by
  simp only [dgV, dgs, Nat.zero_add, List.getElem?_cons_zero, List.getElem?_cons_succ, Option.bind_some, if_pos hx, if_pos hy] at h ⊢
  by_cases ha : 48 ≤ a.toNat ∧ a.toNat ≤ 57
  · by_cases hb : 48 ≤ b.toNat ∧ b.toNat ≤ 57
    · simp only [if_pos ha, if_pos hb, Option.bind_some]
      omega
    · simp [ha, hb] at h
  · simp [ha] at h
/-- The last two of four. -/
theorem dgV_behind (x y a b : UInt8) (r r2 : List UInt8) (h : 0 ≤ dgV (x :: y :: a :: b :: r) 0 4) :
    0 ≤ dgV (a :: b :: r2) 0 2 ∧ ∃ n : Nat, dgV (x :: y :: a :: b :: r) 0 4 = 100 * n + dgV (a :: b :: r2) 0 2 := by
  simp only [dgV, dgs, Nat.zero_add, List.getElem?_cons_zero, List.getElem?_cons_succ, Option.bind_some] at h ⊢
  by_cases hx : 48 ≤ x.toNat ∧ x.toNat ≤ 57
  · by_cases hy : 48 ≤ y.toNat ∧ y.toNat ≤ 57
    · by_cases ha : 48 ≤ a.toNat ∧ a.toNat ≤ 57
      · by_cases hb : 48 ≤ b.toNat ∧ b.toNat ≤ 57
        · simp only [if_pos hx, if_pos hy, if_pos ha, if_pos hb, Option.bind_some]
          exact ⟨by omega, 10 * (x.toNat - 48) + (y.toNat - 48), by omega⟩
        · simp [hx, hy, ha, hb] at h
      · simp [hx, hy, ha] at h
    · simp [hx, hy] at h
  · simp [hx] at h

theorem toX_day {l : List UInt8} (h : 0 ≤ mtV l) : xmlV (toX l) = mtV l := by
  rw [mtV] at h ⊢
  split at h
  · rename_i hc
    rw [if_pos hc]
    obtain ⟨a, b, c, d, e, f, rfl⟩ := six hc.1
    have h2 := hc.2
    have e1 : fullY (dgV [a, b, c, d, e, f] 0 2) = dgV (toX [a, b, c, d, e, f]) 0 4 := by
      rw [toX, fullY]
      by_cases h8 : 80 ≤ dgV [a, b, c, d, e, f] 0 2
      · rw [if_pos h8, if_pos h8]
        exact (dgV_ahead 49 57 a b _ [c, d, e, f] 19 (by decide) (by decide) (by decide) h2).symm
      · rw [if_neg h8, if_neg h8]
        exact (dgV_ahead 50 48 a b _ [c, d, e, f] 20 (by decide) (by decide) (by decide) h2).symm
    rw [e1]
    have hcase : toX [a, b, c, d, e, f] = [49, 57, a, b, 45, c, d, 45, e, f] ∨ toX [a, b, c, d, e, f] = [50, 48, a, b, 45, c, d, 45, e, f] := by
      rw [toX]; split
      · exact .inl rfl
      · exact .inr rfl
    rcases hcase with hh | hh <;> rw [hh] <;> rfl
  · omega
theorem toM_day {l : List UInt8} (h : 0 ≤ xmlV l) : mtV (toM l) = xmlV l := by
  rw [xmlV] at h ⊢
  split at h
  · rename_i hc
    rw [if_pos hc]
    obtain ⟨x, y, a, b, p, c, d, q, e, f, rfl⟩ := ten hc.1
    have e2 : toM [x, y, a, b, p, c, d, q, e, f] = [a, b, c, d, e, f] := rfl
    rw [e2]
    have hd : isDay (dgV [x, y, a, b, p, c, d, q, e, f] 0 4) (dgV [x, y, a, b, p, c, d, q, e, f] 5 2) (dgV [x, y, a, b, p, c, d, q, e, f] 8 2) = true := by
      rw [dayV] at h
      split at h
      · assumption
      · omega
    simp only [isDay, Bool.and_eq_true, decide_eq_true_eq] at hd
    obtain ⟨hb, n, hn⟩ := dgV_behind x y a b [p, c, d, q, e, f] [c, d, e, f] (by omega)
    have hu := dgV_two [a, b, c, d, e, f] 0
    have e1 : fullY (dgV [a, b, c, d, e, f] 0 2) = dgV [x, y, a, b, p, c, d, q, e, f] 0 4 := by
      rw [fullY]; split <;> omega
    rw [mtV, if_pos ⟨rfl, hb⟩, e1]
    rfl
  · omega
end Go.Proofs.Ytpfmmmedhkgheaa
