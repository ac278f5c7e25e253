/-
  Package date: leap years, lengths of months and years, bounds, the first error, a text of a form.
-/
import Derived.Test.YtpfmmmedhkgheaaDtM
import Derived.Test.YtpfmmmedhkgheaaDtK
namespace Go.Proofs.Ytpfmmmedhkgheaa
open Go.RowKit

def dcode (b : Bool) : Int := if b then 0 else 16
def oneOf (b : Bool) (l : List UInt8) : ByteArray := if b then ⟨l.toArray⟩ else ⟨#[]⟩

/-- Has a year a day more? -/
def leapB (y : Nat) : Bool := decide (y % 4 = 0) && decide (¬ y % 100 = 0) || decide (y % 400 = 0)
/-- Length of whatever month. -/
def dmV (y m : Nat) : Nat := if 1 ≤ m ∧ m ≤ 12 then (if m = 2 then (if leapB y then 29 else 28) else if m = 4 ∨ m = 6 ∨ m = 9 ∨ m = 11 then 30 else 31) else 0
theorem dmV_len {y m : Nat} (hy : 1980 ≤ y) (hy2 : y ≤ 2079) (hm : 1 ≤ m) (hm2 : m ≤ 12) : dmV y m = lenM y m := by
  have hl : leapB y = decide (y % 4 = 0 ∧ y ≠ 2100) := by
    unfold leapB
    rw [Bool.eq_iff_iff]
    simp only [Bool.or_eq_true, Bool.and_eq_true, decide_eq_true_eq]
    omega
  unfold dmV lenM
  rw [if_pos ⟨hm, hm2⟩, hl]
  by_cases h : y % 4 = 0 ∧ y ≠ 2100
  · rw [if_pos h, decide_eq_true h, if_pos rfl]
  · rw [if_neg h, decide_eq_false h]
    simp only [Bool.false_eq_true, if_false]
theorem dmV_bound (y m : Nat) : dmV y m ≤ 31 := by
  unfold dmV
  repeat' split
  all_goals omega

set_option maxHeartbeats 1000000 in
theorem dateleap_any (y : Nat) (w : World) (hy : y ≤ 10000) :
    Calls Try.prog 31 #[.int .i64 y] w fun e w' => e = .returned (.bool (leapB y)) ∧ w' = w := by
  have hx : (¬ y % 4 = 0 ∧ ¬ y % 400 = 0 ∧ True ∧ leapB y = false) ∨ (y % 4 = 0 ∧ ¬ y % 100 = 0 ∧ True ∧ leapB y = true) ∨ (y % 4 = 0 ∧ y % 100 = 0 ∧ y % 400 = 0 ∧ leapB y = true) ∨ (y % 4 = 0 ∧ y % 100 = 0 ∧ ¬ y % 400 = 0 ∧ leapB y = false) := by
    unfold leapB
    by_cases h1 : y % 4 = 0
    · by_cases h2 : y % 100 = 0
      · by_cases h3 : y % 400 = 0
        · exact .inr (.inr (.inl ⟨h1, h2, h3, by simp [h3]⟩))
        · exact .inr (.inr (.inr ⟨h1, h2, h3, by simp [h2, h3]⟩))
      · exact .inr (.inl ⟨h1, h2, trivial, by simp [h1, h2]⟩)
    · exact .inl ⟨h1, by omega, trivial, by simp [h1]; omega⟩
  generalize leapB y = b at *
  rcases hx with ⟨h1, h2, h3, rfl⟩ | ⟨h1, h2, h3, rfl⟩ | ⟨h1, h2, h3, rfl⟩ | ⟨h1, h2, h3, rfl⟩
  all_goals
    go_enter Try.func31, Try.ntmps31
    go_wp2
    go_returns
    first
      | exact ⟨rfl, rfl⟩
      | (refine ⟨congrArg (fun b => Ending.returned (Value.bool b)) ?_, rfl⟩; simp; omega)

theorem dateyear_any (y : Nat) (w : World) (hy : y ≤ 10000) :
    Calls Try.prog 21 #[.int .i64 y] w fun e w' => e = .returned (.int .i64 (if leapB y then 366 else 365 : Nat)) ∧ w' = w := by
  have H := hid (dateleap_any y w hy)
  generalize leapB y = b at *
  cases b
  all_goals
    go_enter Try.func21, Try.ntmps21
    go_wp2_with (go_at_call 31; with_reducible refine H.out.mono ?_; rintro e w1 ⟨rfl, hw⟩; obtain rfl := hw.symm)
    go_returns
    exact ⟨rfl, rfl⟩

theorem datewithin_any (n l g : Int) (b : Bool) (w : World) (hb : decide (l ≤ n ∧ n ≤ g) = b) :
    Calls Try.prog 27 #[.int .i64 n, .int .i64 l, .int .i64 g] w fun e w' => e = .returned (.int .i64 (dcode b)) ∧ w' = w := by
  have hx : n < l ∧ b = false ∨ l ≤ n ∧ g < n ∧ b = false ∨ l ≤ n ∧ n ≤ g ∧ b = true := by
    subst hb
    simp only [decide_eq_true_eq, decide_eq_false_iff_not]
    omega
  clear hb
  rcases hx with ⟨h1, rfl⟩ | ⟨h1, h2, rfl⟩ | ⟨h1, h2, rfl⟩
  all_goals
    go_enter Try.func27, Try.ntmps27
    go_wp2
    go_returns
    exact ⟨rfl, rfl⟩

set_option maxHeartbeats 1000000 in
theorem datefirst_any (B n : Nat) (bs : List Bool) (w : World) (hn : bs.length = n) (h8 : n ≤ 8) (hc : ∀ j, j < n → w.cell? ⟨B, j, none⟩ = some (.int .i64 (dcode (bs.getD j true)))) :
    Calls Try.prog 26 #[.slice (some ⟨B, 0, none⟩) n n] w fun e w' => e = .returned (.int .i64 (dcode (bs.all id))) ∧ w' = w := by
  have HS := hid (show (∀ j, j < n → bs.getD j true = true) → bs.all id = true from fun h => by
    rw [List.all_eq_true]
    intro x hx
    obtain ⟨k, hk, rfl⟩ := List.mem_iff_getElem.1 hx
    have := h k (by omega)
    rwa [List.getD_eq_getElem?_getD, List.getElem?_eq_getElem hk] at this)
  have HN := hid (show ∀ j, j < n → bs.getD j true = false → bs.all id = false from fun j hj h => by
    rw [List.all_eq_false]
    refine ⟨bs[j], List.getElem_mem _, ?_⟩
    rw [List.getD_eq_getElem?_getD, List.getElem?_eq_getElem (by omega)] at h
    simpa using h)
  have HC := hid hc
  clear hc hn
  generalize bs.all id = R at *
  go_enter Try.func26, Try.ntmps26
  go_wp2
  go_loop [4, 7] (fun _ i => ∃ k : Nat, k ≤ n ∧ i = .int .i64 k ∧ ∀ j, j < k → bs.getD j true = true) (fun _ i => n - (intOf i).toNat)
  case atStart => exact ⟨0, Nat.zero_le _, rfl, fun _ h => absurd h (Nat.not_lt_zero _)⟩
  case round =>
    obtain ⟨k, hk, rfl, hall⟩ := hrel
    have HA := hid hall
    clear hall
    by_cases hlt : k < n
    · have hcell := HC.out k hlt
      cases hb : bs.getD k true with
      | false =>
        rw [hb] at hcell
        have hR := HN.out k hlt hb
        subst hR
        clear hb
        change _ = some (Value.int .i64 16) at hcell
        go_wp2
        go_returns
        exact ⟨rfl, rfl⟩
      | true =>
        rw [hb] at hcell
        have HB := hid hb
        clear hb
        change _ = some (Value.int .i64 0) at hcell
        go_wp2
        go_round
        case rel =>
          refine ⟨k + 1, by omega, by go_num, fun j hj => ?_⟩
          by_cases e : j = k
          · subst e; exact HB.out
          · exact HA.out j (by omega)
        case measure => simp [intOf]; omega
    · obtain rfl : k = n := by omega
      have hR := HS.out HA.out
      subst hR
      go_wp2
      go_returns
      exact ⟨rfl, rfl⟩
end Go.Proofs.Ytpfmmmedhkgheaa
