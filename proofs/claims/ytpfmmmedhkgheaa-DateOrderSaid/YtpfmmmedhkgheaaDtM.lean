/-
  The document's own answers for days: Moment.
-/
import Derived.Test.YtpfmmmedhkgheaaDtX
namespace Go.Proofs.Ytpfmmmedhkgheaa
open Go.RowKit

set_option maxRecDepth 100000 in
set_option maxHeartbeats 4000000 in
theorem refmoment_any (s : ByteArray) (w : World) (_ : s.size ≤ 9223372036854775807) :
    Calls Try.prog 16 #[.string s] w fun e w' => e = .returned (.bool (momV s.data.toList)) ∧ w' = w := by
  have hl : s.data.toList.length = s.size := by simp
  by_cases h19 : s.size = 19
  · have hk10 : 10 < s.size := by omega
    have hk13 : 13 < s.size := by omega
    have hk16 : 16 < s.size := by omega
    have e10 := byte_at s 10 hk10
    have e13 := byte_at s 13 hk13
    have e16 := byte_at s 16 hk16
    have hv : momV s.data.toList = (decide (0 ≤ xmlV (s.data.toList.take 10)) && (s[10] == 84) && (s[13] == 58) && (s[16] == 58) && momB s.data.toList) := by
      rw [momV, momA, e10, e13, e16, hl, h19]; simp
    have hX := fun w' => refxml6_any (s.extract 0 10) w' (by simp only [ByteArray.size_extract]; omega)
    rw [ext_lst, List.drop_zero] at hX
    have HX := hid hX
    clear hX
    have D1 : Hid (∀ w', Calls Try.prog 22 #[.string s, .int .i64 11, .int .i64 2] w' fun e w'' => e = .returned (.int .i64 (dgV s.data.toList 11 2)) ∧ w'' = w') := hid (fun w' => refdigits_any s 11 2 w' (by omega) (by omega) (by omega))
    have D2 : Hid (∀ w', Calls Try.prog 22 #[.string s, .int .i64 14, .int .i64 2] w' fun e w'' => e = .returned (.int .i64 (dgV s.data.toList 14 2)) ∧ w'' = w') := hid (fun w' => refdigits_any s 14 2 w' (by omega) (by omega) (by omega))
    have D3 : Hid (∀ w', Calls Try.prog 22 #[.string s, .int .i64 17, .int .i64 2] w' fun e w'' => e = .returned (.int .i64 (dgV s.data.toList 17 2)) ∧ w'' = w') := hid (fun w' => refdigits_any s 17 2 w' (by omega) (by omega) (by omega))
    have hB : momB s.data.toList = (decide (0 ≤ dgV s.data.toList 11 2) && decide (dgV s.data.toList 11 2 < 24) && decide (0 ≤ dgV s.data.toList 14 2) && decide (dgV s.data.toList 14 2 < 60) && decide (0 ≤ dgV s.data.toList 17 2) && decide (dgV s.data.toList 17 2 < 60)) := rfl
    clear e10 e13 e16
    generalize momV s.data.toList = v at *
    generalize momB s.data.toList = vb at *
    generalize xmlV (s.data.toList.take 10) = x at *
    generalize dgV s.data.toList 11 2 = h at *
    generalize dgV s.data.toList 14 2 = m at *
    generalize dgV s.data.toList 17 2 = t at *
    have hx : (x < 0 ∧ v = false) ∨ (0 ≤ x ∧ s[10].toNat ≠ 84 ∧ v = false) ∨ (0 ≤ x ∧ s[10].toNat = 84 ∧ s[13].toNat ≠ 58 ∧ v = false) ∨ (0 ≤ x ∧ s[10].toNat = 84 ∧ s[13].toNat = 58 ∧ s[16].toNat ≠ 58 ∧ v = false) ∨
        (0 ≤ x ∧ s[10].toNat = 84 ∧ s[13].toNat = 58 ∧ s[16].toNat = 58 ∧ v = vb) := by
      have q : ∀ (c d : UInt8), (c == d) = decide (c.toNat = d.toNat) := fun c d => by
        rw [Bool.eq_iff_iff, beq_iff_eq, decide_eq_true_eq, UInt8.toNat_inj]
      rw [q, q, q] at hv
      by_cases a1 : x < 0
      · exact .inl ⟨a1, by rw [hv, show decide (0 ≤ x) = false by simp; omega]; simp⟩
      by_cases a2 : s[10].toNat = 84
      · by_cases a3 : s[13].toNat = 58
        · by_cases a4 : s[16].toNat = 58
          · exact .inr (.inr (.inr (.inr ⟨by omega, a2, a3, a4, by rw [hv, a2, a3, a4, show decide (0 ≤ x) = true by simp; omega]; simp⟩)))
          · exact .inr (.inr (.inr (.inl ⟨by omega, a2, a3, a4, by rw [hv, show decide (s[16].toNat = (58 : UInt8).toNat) = false by simpa using a4]; simp⟩)))
        · exact .inr (.inr (.inl ⟨by omega, a2, a3, by rw [hv, show decide (s[13].toNat = (58 : UInt8).toNat) = false by simpa using a3]; simp⟩))
      · exact .inr (.inl ⟨by omega, a2, by rw [hv, show decide (s[10].toNat = (84 : UInt8).toNat) = false by simpa using a2]; simp⟩)
    clear hv
    rcases hx with ⟨a1, rfl⟩ | ⟨a1, a2, rfl⟩ | ⟨a1, a2, a3, rfl⟩ | ⟨a1, a2, a3, a4, rfl⟩ | ⟨a1, a2, a3, a4, hvb⟩
    case inr.inr.inr.inr =>
      subst hvb
      have hx : (h < 0 ∧ v = false) ∨ (0 ≤ h ∧ 24 ≤ h ∧ v = false) ∨ (0 ≤ h ∧ h < 24 ∧ m < 0 ∧ v = false) ∨ (0 ≤ h ∧ h < 24 ∧ 0 ≤ m ∧ 60 ≤ m ∧ v = false) ∨ (0 ≤ h ∧ h < 24 ∧ 0 ≤ m ∧ m < 60 ∧ t < 0 ∧ v = false) ∨
          (0 ≤ h ∧ h < 24 ∧ 0 ≤ m ∧ m < 60 ∧ 0 ≤ t ∧ 60 ≤ t ∧ v = false) ∨ (0 ≤ h ∧ h < 24 ∧ 0 ≤ m ∧ m < 60 ∧ 0 ≤ t ∧ t < 60 ∧ v = true) := by
        have hn : v = true ↔ 0 ≤ h ∧ h < 24 ∧ 0 ≤ m ∧ m < 60 ∧ 0 ≤ t ∧ t < 60 := by
          rw [hB]; simp only [Bool.and_eq_true, decide_eq_true_eq, and_assoc]
        cases v
        · have : ¬ (0 ≤ h ∧ h < 24 ∧ 0 ≤ m ∧ m < 60 ∧ 0 ≤ t ∧ t < 60) := fun e => Bool.noConfusion (hn.2 e)
          simp only [and_true, Bool.false_eq_true, and_false, or_false]
          omega
        · have := hn.1 rfl
          simp only [and_true, Bool.true_eq_false, and_false, false_or]
          omega
      clear hB
      rcases hx with ⟨b1, rfl⟩ | ⟨b1, b2, rfl⟩ | ⟨b1, b2, b3, rfl⟩ | ⟨b1, b2, b3, b4, rfl⟩ | ⟨b1, b2, b3, b4, b5, rfl⟩ | ⟨b1, b2, b3, b4, b5, b6, rfl⟩ | ⟨b1, b2, b3, b4, b5, b6, rfl⟩
      all_goals
        go_enter Try.func16, Try.ntmps16
        go_wp2_with (first
          | (go_at_call 22; (first | with_reducible refine (D1.out _).mono ?_ | with_reducible refine (D2.out _).mono ?_ | with_reducible refine (D3.out _).mono ?_); rintro e w' ⟨rfl, hw'⟩; obtain rfl := hw'.symm)
          | (go_at_call 11; with_reducible refine (HX.out _).mono ?_; rintro e w' ⟨rfl, hw'⟩; obtain rfl := hw'.symm))
        go_returns
        refine ⟨congrArg (fun b => Ending.returned (Value.bool b)) ?_, rfl⟩
        first | rfl | (simp; omega)
    all_goals
      clear hB D1 D2 D3
      try have a5 : ((s[16].toNat : Int) != 58) = true := by simp; omega
      go_enter Try.func16, Try.ntmps16
      go_wp2_with (go_at_call 11; with_reducible refine (HX.out _).mono ?_; rintro e w' ⟨rfl, hw'⟩; obtain rfl := hw'.symm)
      go_returns
      exact ⟨rfl, rfl⟩
  · have hv : momV s.data.toList = false := by rw [momV, momA, hl, show decide (s.size = 19) = false by simpa using h19]; simp
    rw [hv]
    go_enter Try.func16, Try.ntmps16
    go_wp2
    go_returns
    exact ⟨rfl, rfl⟩
end Go.Proofs.Ytpfmmmedhkgheaa
