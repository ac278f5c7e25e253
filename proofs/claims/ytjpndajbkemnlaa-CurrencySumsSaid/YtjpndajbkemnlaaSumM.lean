/-
  What fits, by worths: a number fits a currency just if its worth is a multiple of the currency's least amount.
-/
import Derived.Test.YtjpndajbkemnlaaNumP
import Derived.Test.YtjpndajbkemnlaaFits
namespace Go.Proofs.Ytjpndajbkemnlaa
open Go.RowKit

/-- The worth is a multiple of the least amount with d digits. -/
def Div (W : Int) (d : Nat) : Prop := ∃ q, W = q * p10 (5 - d)
theorem Div.add {W W' : Int} {d : Nat} (h : Div W d) (h' : Div W' d) : Div (W + W') d := by
  obtain ⟨q, rfl⟩ := h
  obtain ⟨r, rfl⟩ := h'
  exact ⟨q + r, (Int.add_mul q r _).symm⟩
theorem Div.more {W : Int} {d f : Nat} (h : Div W d) (hd : d ≤ f) (hf : f ≤ 5) : Div W f := by
  obtain ⟨q, rfl⟩ := h
  refine ⟨q * p10 (f - d), ?_⟩
  rw [Int.mul_assoc, ← p10_add]
  congr 2
  omega

theorem lst_dvd : ∀ (s : Nat) (c : Int) (d : Nat), s ≤ 5 → d ≤ 5 → ((lst s c).2 ≤ d ↔ Div (c * p10 (5 - s)) d) := by
  intro s
  induction s with
  | zero =>
    intro c d hs hd
    refine ⟨fun _ => ⟨c * p10 d, ?_⟩, fun _ => Nat.zero_le _⟩
    rw [Int.mul_assoc, ← p10_add]
    congr 2
    omega
  | succ s ih =>
    intro c d hs hd
    by_cases hc : c % 10 = 0
    · rw [lst_go hc]
      have h1 : c * p10 (5 - (s + 1)) = (c / 10) * p10 (5 - s) := by
        have e : 5 - s = (5 - (s + 1)) + 1 := by omega
        rw [e]
        show _ = (c / 10) * (p10 (5 - (s + 1)) * 10)
        rw [Int.mul_comm (p10 (5 - (s + 1))) 10, ← Int.mul_assoc]
        congr 1
        omega
      rw [h1]
      exact ih (c / 10) d (by omega) hd
    · rw [lst_stop (by omega) hc]
      constructor
      · intro h
        refine ⟨c * p10 (d - (s + 1)), ?_⟩
        rw [Int.mul_assoc, ← p10_add]
        congr 2
        have : s + 1 ≤ d := h
        omega
      · intro h
        obtain ⟨q, hq⟩ := h
        refine Classical.byContradiction fun hn => ?_
        have hn : d < s + 1 := Nat.lt_of_not_le hn
        have e : 5 - d = (s - d + 1) + (5 - (s + 1)) := by omega
        rw [e, p10_add, ← Int.mul_assoc] at hq
        have hp := p10_pos (5 - (s + 1))
        have h2 : c = q * p10 (s - d + 1) := Int.eq_of_mul_eq_mul_right (by omega) hq
        have h3 : c = (q * p10 (s - d)) * 10 := by rw [h2, Int.mul_assoc]; rfl
        omega

/-- What fits. -/
theorem fits_iff {g : Bool} {c s : Int} {l : List UInt8} : fitsV g c s l = 0 ↔ g = false ∧ goodB g c s = true ∧ (digV l).2 = true ∧ Div (wo g c s) (digV l).1.toNat := by
  obtain ⟨d0, d4⟩ := digV_le l
  cases hG : goodB g c s
  · simp [fitsV, hG]
  · obtain ⟨_, _, h2, h5, _⟩ := goodB_parts hG
    obtain ⟨s, rfl⟩ : ∃ n : Nat, s = n := ⟨s.toNat, by omega⟩
    cases g
    · have hl := lst_dvd s c (digV l).1.toNat (by omega) (by omega)
      have e1 : wo false c s = c * p10 (5 - s) := by
        rw [wo, ex, sg]
        have : ((5 : Int) - (s : Int)).toNat = 5 - s := by omega
        rw [this]
        simp
      have e2 : ((leastV false c s).2 ≤ (digV l).1) ↔ (lst s c).2 ≤ (digV l).1.toNat := by
        rw [leastV, hG, if_pos rfl]
        show ((lst s c).2 : Int) ≤ _ ↔ _
        omega
      rw [e1, ← hl, ← e2]
      by_cases hd : (digV l).2 = true
      · by_cases hk : (leastV false c s).2 ≤ (digV l).1
        · simp [fitsV, hG, hd, hk]
        · simp [fitsV, hG, hd, hk]
      · simp [fitsV, hG, hd]
    · simp [fitsV, hG]

/-- Sums of what fits fit. -/
theorem fits_sum {g g' g2 : Bool} {c c' c2 s s' s2 : Int} {l : List UInt8} (h : fitsV g c s l = 0) (h' : fitsV g' c' s' l = 0) (h2 : Num g2 c2 s2 (wo g c s + wo g' c' s')) : fitsV g2 c2 s2 l = 0 := by
  obtain ⟨rfl, hg, hd, hv⟩ := fits_iff.1 h
  obtain ⟨rfl, hg', _, hv'⟩ := fits_iff.1 h'
  obtain ⟨a0, _⟩ := goodB_parts hg
  obtain ⟨b0, _⟩ := goodB_parts hg'
  obtain ⟨e0, _, _, _, e4⟩ := goodB_parts h2.1
  have w1 : 0 ≤ wo false c s := by
    rw [wo, ex, sg]
    exact Int.mul_nonneg (by simpa using a0) (by have := p10_pos (5 - s).toNat; omega)
  have w2 : 0 ≤ wo false c' s' := by
    rw [wo, ex, sg]
    exact Int.mul_nonneg (by simpa using b0) (by have := p10_pos (5 - s').toNat; omega)
  have hneg : g2 = false := by
    cases g2
    · rfl
    · have hc : c2 ≠ 0 := fun e => by cases e4 e
      have hw : wo true c2 s2 < 0 := by
        rw [wo, ex, sg]
        exact Int.mul_neg_of_neg_of_pos (by simp; omega) (by have := p10_pos (5 - s2).toNat; omega)
      have := h2.2
      omega
  refine fits_iff.2 ⟨hneg, h2.1, hd, ?_⟩
  rw [h2.2]
  exact hv.add hv'
/-- What fits fits each currency of no fewer digits. -/
theorem fits_more {g : Bool} {c s : Int} {l l' : List UInt8} (h : fitsV g c s l = 0) (hd : (digV l').2 = true) (hk : (digV l).1 ≤ (digV l').1) : fitsV g c s l' = 0 := by
  obtain ⟨hg, hG, _, hv⟩ := fits_iff.1 h
  have := digV_le l'
  exact fits_iff.2 ⟨hg, hG, hd, hv.more (by omega) (by omega)⟩
/-- .. and as the number of least scale. -/
theorem fits_least {g : Bool} {c s : Int} {l : List UInt8} (h : fitsV g c s l = 0) : fitsV g (leastV g c s).1 (leastV g c s).2 l = 0 := by
  obtain ⟨hg, hG, hd, hv⟩ := fits_iff.1 h
  obtain ⟨_, _, h2, h5, _⟩ := goodB_parts hG
  obtain ⟨s, rfl⟩ : ∃ n : Nat, s = n := ⟨s.toNat, by omega⟩
  have e : leastV g c s = ((lst s c).1, ((lst s c).2 : Int)) := by rw [leastV, hG, if_pos rfl]; rfl
  rw [e]
  refine fits_iff.2 ⟨hg, lst_good g s c hG, hd, ?_⟩
  rw [lst_wo g s c (by omega)]
  exact hv
end Go.Proofs.Ytjpndajbkemnlaa
