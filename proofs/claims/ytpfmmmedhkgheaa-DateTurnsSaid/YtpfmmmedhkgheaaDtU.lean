/-
  The n-th day's text, and its other text.
-/
import Derived.Test.YtpfmmmedhkgheaaDtT
import Derived.Test.YtpfmmmedhkgheaaDtO
namespace Go.Proofs.Ytpfmmmedhkgheaa

theorem four_back : ∀ j, j < 100 → dgV (twoL (1980 + j) 4) 0 4 = ((1980 + j : Nat) : Int) := by decide +kernel
theorem two_back : ∀ j, j < 100 → dgV (twoL j 2) 0 2 = (j : Int) := by decide +kernel
theorem len2 {l : List UInt8} (h : l.length = 2) : ∃ a b, l = [a, b] := by
  match l, h with
  | [a, b], _ => exact ⟨a, b, rfl⟩
theorem len4 {l : List UInt8} (h : l.length = 4) : ∃ a b c d, l = [a, b, c, d] := by
  match l, h with
  | [a, b, c, d], _ => exact ⟨a, b, c, d, rfl⟩
theorem text_day {k r : Nat} (hk : k < 1200) (hr : r < lenK k) : xmlV (textL k r) = ((cum k + r : Nat) : Int) := by
  have hb := lenK_bound k
  have e1 := four_back (k / 12) (by omega)
  have e2 := two_back (k % 12 + 1) (by omega)
  have e3 := two_back (r + 1) (by omega)
  obtain ⟨p, q, s, t, h1⟩ := len4 (twoL_len (1980 + k / 12) 4)
  obtain ⟨c, d, h2⟩ := len2 (twoL_len (k % 12 + 1) 2)
  obtain ⟨e, f, h3⟩ := len2 (twoL_len (r + 1) 2)
  have hl : textL k r = [p, q, s, t, 45, c, d, 45, e, f] := by rw [textL, dateL, h1, h2, h3]; rfl
  rw [h1] at e1
  rw [h2] at e2
  rw [h3] at e3
  have d1 : dgV [p, q, s, t, 45, c, d, 45, e, f] 0 4 = ((1980 + k / 12 : Nat) : Int) := e1
  have d2 : dgV [p, q, s, t, 45, c, d, 45, e, f] 5 2 = ((k % 12 + 1 : Nat) : Int) := e2
  have d3 : dgV [p, q, s, t, 45, c, d, 45, e, f] 8 2 = ((r + 1 : Nat) : Int) := e3
  rw [hl, xmlV, if_pos ⟨rfl, rfl, rfl⟩, d1, d2, d3]
  have hd : r + 1 ≤ lenM (1980 + k / 12) (k % 12 + 1) := hr
  rw [dayV, if_pos]
  · rw [Int.toNat_natCast, Int.toNat_natCast, Int.toNat_natCast, dayN, show 12 * (1980 + k / 12 - 1980) + (k % 12 + 1) - 1 = k by omega, Nat.add_sub_cancel]
  · simp only [isDay, Int.toNat_natCast, Bool.and_eq_true, decide_eq_true_eq]
    omega
/-- A day's text of XML out of its other text. -/
theorem toX_toM {l : List UInt8} (h : 0 ≤ xmlV l) : toX (toM l) = l := by
  have h1 := toM_day h
  have h2 := toX_day (l := toM l) (by omega)
  exact (xml_order (by omega) h).2.1 (by omega)
theorem toM_len {l : List UInt8} (h : l.length = 10) : (toM l).length = 6 := by
  rw [toM]; simp only [List.length_append, List.length_take, List.length_drop]; omega
theorem mom_mid {l : List UInt8} (h : 0 ≤ xmlV l) : momV (l ++ [84, 48, 48, 58, 48, 48, 58, 48, 48]) = true := by
  obtain ⟨x, y, a, b, c, d, e, f, rfl, -⟩ := xml_parts h
  have hA : momA ([x, y, a, b, 45, c, d, 45, e, f] ++ [84, 48, 48, 58, 48, 48, 58, 48, 48]) = true := by
    have ht : List.take 10 ([x, y, a, b, 45, c, d, 45, e, f] ++ [84, 48, 48, 58, 48, 48, 58, 48, 48]) = [x, y, a, b, 45, c, d, 45, e, f] := rfl
    rw [momA, ht, decide_eq_true h]
    rfl
  have hB : momB ([x, y, a, b, 45, c, d, 45, e, f] ++ [84, 48, 48, 58, 48, 48, 58, 48, 48]) = true := rfl
  rw [momV, hA, hB]; rfl
def lastD : List UInt8 := [50, 48, 55, 57, 45, 49, 50, 45, 51, 49]
theorem last_day {l : List UInt8} (h : xmlV l = 36524) : l = lastD := by
  have h1 : xmlV lastD = 36524 := by decide +kernel
  exact (xml_order (by omega) (by omega)).2.1 (by rw [h, h1])
end Go.Proofs.Ytpfmmmedhkgheaa
