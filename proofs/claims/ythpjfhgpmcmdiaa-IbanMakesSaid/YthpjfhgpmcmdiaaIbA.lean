/-
  Account numbers: the program's letters and digits (isDigit, isLetter, isPlain, twoDigits).
-/
import Derived.Test.YthpjfhgpmcmdiaaIbR
import Derived.Laws.IdiomStrings
namespace Go.Proofs.Ythpjfhgpmcmdiaa
open Go.RowKit

set_option maxHeartbeats 400000 in
theorem isDigit_any (n : Nat) (w : World) :
    Calls Try.prog 18 #[.int .u8 n] w fun e w' => e = .returned (.bool (decide (48 ≤ n) && decide (n ≤ 57))) ∧ w' = w := by
  by_cases h1 : 48 ≤ n
  · by_cases h2 : n ≤ 57
    · rw [decide_eq_true h1, decide_eq_true h2]
      go_enter Try.func18, Try.ntmps18
      go_wp2
      go_returns
      exact ⟨congrArg (fun b => Ending.returned (Value.bool b)) (decide_eq_true (show (n : Int) ≤ 57 by omega)), rfl⟩
    · rw [decide_eq_true h1, decide_eq_false h2]
      go_enter Try.func18, Try.ntmps18
      go_wp2
      go_returns
      exact ⟨congrArg (fun b => Ending.returned (Value.bool b)) (decide_eq_false (show ¬ (n : Int) ≤ 57 by omega)), rfl⟩
  · rw [decide_eq_false h1, Bool.false_and]
    go_enter Try.func18, Try.ntmps18
    go_wp2
    go_returns
    exact ⟨rfl, rfl⟩

set_option maxHeartbeats 400000 in
theorem isLetter_any (n : Nat) (w : World) :
    Calls Try.prog 20 #[.int .u8 n] w fun e w' => e = .returned (.bool (decide (65 ≤ n) && decide (n ≤ 90))) ∧ w' = w := by
  by_cases h1 : 65 ≤ n
  · by_cases h2 : n ≤ 90
    · rw [decide_eq_true h1, decide_eq_true h2]
      go_enter Try.func20, Try.ntmps20
      go_wp2
      go_returns
      exact ⟨congrArg (fun b => Ending.returned (Value.bool b)) (decide_eq_true (show (n : Int) ≤ 90 by omega)), rfl⟩
    · rw [decide_eq_true h1, decide_eq_false h2]
      go_enter Try.func20, Try.ntmps20
      go_wp2
      go_returns
      exact ⟨congrArg (fun b => Ending.returned (Value.bool b)) (decide_eq_false (show ¬ (n : Int) ≤ 90 by omega)), rfl⟩
  · rw [decide_eq_false h1, Bool.false_and]
    go_enter Try.func20, Try.ntmps20
    go_wp2
    go_returns
    exact ⟨rfl, rfl⟩

/-- A byte is a letter, a digit, or neither. -/
theorem ib_three (c : UInt8) : ((decide (65 ≤ c.toNat) && decide (c.toNat ≤ 90)) = true ∧ ibOk c = true ∧ 65 ≤ c.toNat ∧ c.toNat ≤ 90) ∨
    ((decide (65 ≤ c.toNat) && decide (c.toNat ≤ 90)) = false ∧ (decide (48 ≤ c.toNat) && decide (c.toNat ≤ 57)) = true ∧ ibOk c = true ∧ 48 ≤ c.toNat ∧ c.toNat ≤ 57) ∨
    ((decide (65 ≤ c.toNat) && decide (c.toNat ≤ 90)) = false ∧ (decide (48 ≤ c.toNat) && decide (c.toNat ≤ 57)) = false ∧ ibOk c = false) := by
  simp only [ibOk, ibDg, ibLt]
  by_cases h1 : 65 ≤ c.toNat
  · by_cases h2 : c.toNat ≤ 90
    · exact .inl ⟨by simp [h1, h2], by simp [h1, h2], h1, h2⟩
    · have : ¬ c.toNat ≤ 57 := by omega
      exact .inr (.inr ⟨by simp [h2], by simp [this], by simp [h2, this]⟩)
  · by_cases h3 : 48 ≤ c.toNat
    · by_cases h4 : c.toNat ≤ 57
      · exact .inr (.inl ⟨by simp [h1], by simp [h3, h4], by simp [h3, h4], h3, h4⟩)
      · exact .inr (.inr ⟨by simp [h1], by simp [h4], by simp [h1, h4]⟩)
    · exact .inr (.inr ⟨by simp [h1], by simp [h3], by simp [h1, h3]⟩)

set_option maxRecDepth 100000 in
set_option maxHeartbeats 2000000 in
theorem isPlain_any (s : ByteArray) (hs : s.size ≤ 9223372036854775807) (w : World) :
    Calls Try.prog 15 #[.string s] w fun e w' => e = .returned (.bool (s.data.toList.all ibOk)) ∧ w' = w := by
  generalize hv : s.data.toList.all ibOk = v
  have HV := hid hv
  clear hv
  go_enter Try.func15, Try.ntmps15
  go_wp2
  go_loop [6] (fun i => ∃ k : Nat, k ≤ s.size ∧ i = .int .i64 k ∧ (s.data.toList.take k).all ibOk = true) (fun i => s.size - (intOf i).toNat)
  case atStart => exact ⟨0, Nat.zero_le _, rfl, rfl⟩
  case round =>
    obtain ⟨k, hk, rfl, hall⟩ := hrel
    have HA := hid hall
    clear hall
    by_cases hlt : k < s.size
    · have HS := hid (take_snoc s k hlt)
      rcases ib_three s[k] with ⟨e1, e2, -, -⟩ | ⟨e1, e2, e3, -, -⟩ | ⟨e1, e2, e3⟩
      · have E1 := hid e1
        have E2 := hid e2
        clear e1 e2
        go_wp2_with (first | (go_at_call 20; with_reducible refine (isLetter_any _ _).mono ?_; rintro e w' ⟨rfl, rfl⟩; rw [E1.out]))
        go_round
        case rel => exact ⟨k + 1, by omega, by go_num, by rw [HS.out, List.all_append, HA.out]; simp [E2.out]⟩
        case measure => simp [intOf]; omega
      · have E1 := hid e1
        have E2 := hid e2
        have E3 := hid e3
        clear e1 e2 e3
        go_wp2_with (first | (go_at_call 20; with_reducible refine (isLetter_any _ _).mono ?_; rintro e w' ⟨rfl, rfl⟩; rw [E1.out]) | (go_at_call 18; with_reducible refine (isDigit_any _ _).mono ?_; rintro e w' ⟨rfl, rfl⟩; rw [E2.out]))
        go_round
        case rel => exact ⟨k + 1, by omega, by go_num, by rw [HS.out, List.all_append, HA.out]; simp [E3.out]⟩
        case measure => simp [intOf]; omega
      · have E1 := hid e1
        have E2 := hid e2
        have hbad := hid (HV.out.symm.trans (all_bad hlt e3))
        clear e1 e2 e3
        go_wp2_with (first | (go_at_call 20; with_reducible refine (isLetter_any _ _).mono ?_; rintro e w' ⟨rfl, rfl⟩; rw [E1.out]) | (go_at_call 18; with_reducible refine (isDigit_any _ _).mono ?_; rintro e w' ⟨rfl, rfl⟩; rw [E2.out]))
        go_returns
        rw [hbad.out]
        exact ⟨rfl, rfl⟩
    · obtain rfl : k = s.size := by omega
      go_wp2
      go_returns
      have h := HA.out
      rw [take_all, HV.out] at h
      rw [h]
      exact ⟨rfl, rfl⟩

set_option maxHeartbeats 1000000 in
theorem twoDigits_any (n : Nat) (hn : n ≤ 99) (x y : UInt8) (hx : x.toNat = 48 + n / 10) (hy : y.toNat = 48 + n % 10) (w : World) :
    Calls Try.prog 19 #[.int .i64 n] w fun e w' => e = .returned (.string ⟨#[x, y]⟩) ∧ Below w.heap.size w w' := by
  have hcv := run_convert_bytes_back (P := Try.prog) (w.alloc (.cells #[.int .u8 (48 + (n : Int) / 10), .int .u8 (48 + (n : Int) % 10)] 5)) 31 9 5 ⟨w.heap.size, 0, none⟩ 2
    [x, y] Try.underlying31 Try.underlying5 Try.underlying9 (fun j hj => by
      match j, hj with
      | 0, _ => simp [go_sem, Addr.add]; omega
      | 1, _ => simp [go_sem, Addr.add]; omega)
  simp only [List.length_cons, List.length_nil, Nat.reduceAdd] at hcv
  go_enter Try.func19, Try.ntmps19
  go_wp2
  go_returns
  exact ⟨rfl, (Below.refl _ _).alloc (Nat.le_refl _) _⟩
end Go.Proofs.Ythpjfhgpmcmdiaa
