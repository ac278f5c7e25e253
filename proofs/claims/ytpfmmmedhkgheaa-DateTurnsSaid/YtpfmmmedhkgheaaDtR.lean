/-
  The document's own answers for days: length, digits, two.
-/
import Derived.Test.YtpfmmmedhkgheaaByt
import Derived.Test.YtpfmmmedhkgheaaDtN
namespace Go.Proofs.Ytpfmmmedhkgheaa
open Go.RowKit

set_option maxHeartbeats 2000000 in
theorem reflength_any (y m : Nat) (w : World) (hy : y ≤ 3000) (hm : m ≤ 100) :
    Calls Try.prog 28 #[.int .i64 y, .int .i64 m] w fun e w' => e = .returned (.int .i64 (lenM y m : Nat)) ∧ w' = w := by
  have hx : m = 2 ∧ y % 4 = 0 ∧ y = 2100 ∧ lenM y m = 28 ∨ m = 2 ∧ y % 4 = 0 ∧ y ≠ 2100 ∧ lenM y m = 29 ∨ m = 2 ∧ y % 4 ≠ 0 ∧ True ∧ lenM y m = 28 ∨
      m = 4 ∧ True ∧ True ∧ lenM y m = 30 ∨ m = 6 ∧ True ∧ True ∧ lenM y m = 30 ∨ m = 9 ∧ True ∧ True ∧ lenM y m = 30 ∨ m = 11 ∧ True ∧ True ∧ lenM y m = 30 ∨
      (m ≠ 2 ∧ ((m : Int) == 4) = false) ∧ ((m : Int) == 6) = false ∧ (((m : Int) == 9) = false ∧ ((m : Int) == 11) = false) ∧ lenM y m = 31 := by
    unfold lenM
    by_cases h1 : m = 2
    · by_cases h2 : y % 4 = 0
      · by_cases h3 : y = 2100
        · exact .inl ⟨h1, h2, h3, by simp [h1, h3]⟩
        · exact .inr (.inl ⟨h1, h2, h3, by simp [h1, h2, h3]⟩)
      · exact .inr (.inr (.inl ⟨h1, h2, trivial, by simp [h1, h2]⟩))
    · by_cases h4 : m = 4
      · exact .inr (.inr (.inr (.inl ⟨h4, trivial, trivial, by simp [h4]⟩)))
      · by_cases h6 : m = 6
        · exact .inr (.inr (.inr (.inr (.inl ⟨h6, trivial, trivial, by simp [h6]⟩))))
        · by_cases h9 : m = 9
          · exact .inr (.inr (.inr (.inr (.inr (.inl ⟨h9, trivial, trivial, by simp [h9]⟩)))))
          · by_cases h11 : m = 11
            · exact .inr (.inr (.inr (.inr (.inr (.inr (.inl ⟨h11, trivial, trivial, by simp [h11]⟩))))))
            · exact .inr (.inr (.inr (.inr (.inr (.inr (.inr ⟨⟨h1, by simp; omega⟩, by simp; omega, ⟨by simp; omega, by simp; omega⟩, by simp [h1, h4, h6, h9, h11]⟩))))))
  generalize lenM y m = L at hx ⊢
  rcases hx with ⟨rfl, h1, h2, rfl⟩ | ⟨rfl, h1, h2, rfl⟩ | ⟨rfl, h1, h2, rfl⟩ | ⟨rfl, h1, h2, rfl⟩ | ⟨rfl, h1, h2, rfl⟩ | ⟨rfl, h1, h2, rfl⟩ | ⟨rfl, h1, h2, rfl⟩ | ⟨⟨h1, h2⟩, h3, ⟨h4, h5⟩, rfl⟩
  case inr.inr.inr.inr.inr.inr.inr =>
    go_enter Try.func28, Try.ntmps28
    go_wp2
    go_returns
    exact ⟨rfl, rfl⟩
  all_goals
    go_enter Try.func28, Try.ntmps28
    go_wp2
    go_returns
    exact ⟨rfl, rfl⟩

set_option maxHeartbeats 2000000 in
theorem refdigits_any (s : ByteArray) (f m : Nat) (w : World) (hs : s.size ≤ 1000) (hf : f ≤ 1000) (hm : m ≤ 4) :
    Calls Try.prog 22 #[.string s, .int .i64 f, .int .i64 m] w fun e w' => e = .returned (.int .i64 (dgV s.data.toList f m)) ∧ w' = w := by
  have HN := hid (fun k (h : dgs s.data.toList f k = none) (hk : k ≤ m) => dgV_none h hk)
  have HS := hid (fun n (h : dgs s.data.toList f m = some n) => dgV_some h)
  generalize dgV s.data.toList f m = v at HN HS ⊢
  go_enter Try.func22, Try.ntmps22
  go_wp2
  go_loop [7, 8] (fun n i => ∃ k a : Nat, k ≤ m ∧ i = .int .i64 ((f + k : Nat) : Int) ∧ n = .int .i64 a ∧ dgs s.data.toList f k = some a ∧ a ≤ 9999) (fun _ i => f + m - (intOf i).toNat)
  case atStart => exact ⟨0, 0, Nat.zero_le _, rfl, rfl, rfl, by omega⟩
  case round =>
    obtain ⟨k, a, hk, rfl, rfl, hd, ha⟩ := hrel
    have HD := hid hd
    clear hd
    by_cases hlt : k < m
    · by_cases he : f + k < s.size
      · have hc : s.data.toList[f + k]? = some s[f + k] := by
          rw [ByteArray.getElem_eq_getElem_data, List.getElem?_eq_getElem (by simpa using he)]; rfl
        have hx : s[f + k].toNat < 48 ∨ 48 ≤ s[f + k].toNat ∧ 57 < s[f + k].toNat ∨ 48 ≤ s[f + k].toNat ∧ s[f + k].toNat ≤ 57 := by omega
        rcases hx with h | ⟨h, h2⟩ | ⟨h, h2⟩
        · have hr := hid (HN.out (k + 1) (dgs_bad HD.out hc (.inl h)) (by omega))
          clear hc
          go_wp2
          go_returns
          rw [hr.out]
          exact ⟨rfl, rfl⟩
        · have hr := hid (HN.out (k + 1) (dgs_bad HD.out hc (.inr h2)) (by omega))
          clear hc
          go_wp2
          go_returns
          rw [hr.out]
          exact ⟨rfl, rfl⟩
        · have hr := hid (dgs_next HD.out hc h h2)
          have hb := dgs_bound hr.out
          have hb2 : 10 ^ (k + 1) ≤ 10 ^ 4 := Nat.pow_le_pow_right (by omega) (by omega)
          clear hc
          have hlt2 : 10 * a + (s[f + k].toNat - 48) ≤ 9999 := by omega
          clear hb hb2
          go_wp2
          go_round
          case rel => exact ⟨k + 1, 10 * a + (s[f + k].toNat - 48), by omega, by go_num, by go_num, hr.out, hlt2⟩
          case measure => simp [intOf]; omega
      · have hr := hid (HN.out (k + 1) (dgs_end HD.out (by simp; omega)) (by omega))
        go_wp2
        go_returns
        rw [hr.out]
        exact ⟨rfl, rfl⟩
    · obtain rfl : k = m := by omega
      have hr := hid (HS.out a HD.out)
      go_wp2
      go_returns
      rw [hr.out]
      exact ⟨rfl, rfl⟩

theorem two_snoc (n w : Nat) : twoL n (w + 1) = twoL (n / 10) w ++ [UInt8.ofNat (48 + n % 10)] := rfl
/-- What is left of a number after k digits. -/
def left (n : Nat) : Nat → Nat
  | 0 => n
  | k + 1 => left n k / 10
theorem left_le (n k : Nat) : left n k ≤ n := by
  induction k with
  | zero => exact Nat.le_refl _
  | succ k ih => rw [left]; omega
theorem left_div (n k : Nat) : left n (k + 1) = left (n / 10) k := by
  induction k with
  | zero => rfl
  | succ k ih => rw [left, ih]; rfl
theorem two_cons (n k : Nat) : twoL n (k + 1) = UInt8.ofNat (48 + left n k % 10) :: twoL n k := by
  induction k generalizing n with
  | zero => rfl
  | succ k ih => rw [twoL, ih, left_div, twoL, List.cons_append]

theorem one_digit (W : World) (d : Nat) : (convert 53 9 (.slice (some ⟨W.heap.size, 0, none⟩) 1 1)).run Try.prog (W.alloc (.cells #[.int .u8 (48 + (d : Int) % 10)] 5)) = .ok (.string ⟨#[UInt8.ofNat (48 + d % 10)]⟩) (W.alloc (.cells #[.int .u8 (48 + (d : Int) % 10)] 5)) := by
  refine run_convert_bytes_back _ _ _ 5 _ 1 [UInt8.ofNat (48 + d % 10)] Try.underlying53 Try.underlying5 Try.underlying9 ?_
  intro j hj
  obtain rfl : j = 0 := by simpa using hj
  have hn : (UInt8.ofNat (48 + d % 10)).toNat = 48 + d % 10 := by
    have hb : ∀ k, k < 10 → (UInt8.ofNat (48 + k)).toNat = 48 + k := by decide
    exact hb _ (by omega)
  simp only [List.getElem_cons_zero, hn]
  simp [go_sem, Addr.add]
theorem cat_mk (a b : List UInt8) : (⟨a.toArray⟩ : ByteArray) ++ ⟨b.toArray⟩ = ⟨(a ++ b).toArray⟩ := ib_str_eq (by simp)

set_option maxHeartbeats 2000000 in
theorem reftwo_any (n k : Nat) (w : World) (hn : n ≤ 100000) (hk : k ≤ 10) :
    Calls Try.prog 29 #[.int .i64 n, .int .i64 k] w fun e w' => e = .returned (.string ⟨(twoL n k).toArray⟩) ∧ Below w.heap.size w w' := by
  go_enter Try.func29, Try.ntmps29
  go_wp2
  go_loopw [0, 5, 6] (fun x t i wr => ∃ j : Nat, j ≤ k ∧ i = .int .i64 j ∧ x = .int .i64 (left n j : Nat) ∧ t = .string ⟨(twoL n j).toArray⟩ ∧ Below w.heap.size w wr) (fun _ _ i _ => k - (intOf i).toNat)
  case atStart => exact ⟨0, Nat.zero_le _, rfl, rfl, rfl, Below.refl _ _⟩
  case round =>
    obtain ⟨j, hj, rfl, rfl, rfl, hb⟩ := hrel
    have hl := left_le n j
    have hc := hid (two_cons n j)
    have hs := hid (show left n (j + 1) = left n j / 10 from rfl)
    have hz := twoL_len n j
    by_cases hlt : j < k
    · generalize left n j = x at *
      generalize twoL n j = t at *
      have hcv := one_digit wr x
      have hcc := hid (cat_mk [UInt8.ofNat (48 + x % 10)] t)
      generalize UInt8.ofNat (48 + x % 10) = c at hcv hcc hc
      go_wp2
      go_roundw
      case rel => exact ⟨j + 1, by omega, by go_num, by rw [hs.out]; go_num, by rw [hc.out]; exact congrArg Value.string hcc.out, hb.alloc hb.size _⟩
      case measure => simp [intOf]; omega
    · obtain rfl : j = k := by omega
      go_wp2
      go_returns
      exact ⟨rfl, hb⟩
end Go.Proofs.Ytpfmmmedhkgheaa
