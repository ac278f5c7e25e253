/-
  The document's own answers for days: MT, XML, Moment, Say.
-/
import Derived.Test.YtpfmmmedhkgheaaDtT
namespace Go.Proofs.Ytpfmmmedhkgheaa
open Go.RowKit

theorem dgV_bound (l : List UInt8) (f m : Nat) : -1 ≤ dgV l f m ∧ dgV l f m < (10 ^ m : Nat) := by
  cases h : dgs l f m with
  | none => rw [dgV, h]; have : 0 < 10 ^ m := Nat.pow_pos (by omega); dsimp only; omega
  | some n => rw [dgV_some h]; have := dgs_bound h; omega
theorem dgV_two (l : List UInt8) (f : Nat) : -1 ≤ dgV l f 2 ∧ dgV l f 2 ≤ 99 := by have := dgV_bound l f 2; simp at this; omega
theorem dgV_four (l : List UInt8) (f : Nat) : -1 ≤ dgV l f 4 ∧ dgV l f 4 ≤ 9999 := by have := dgV_bound l f 4; simp at this; omega
theorem dayV_bound (y m d : Int) : -1 ≤ dayV y m d ∧ dayV y m d ≤ 36524 := by
  rw [dayV]
  split
  · rename_i h
    simp only [isDay, Bool.and_eq_true, decide_eq_true_eq] at h
    have := dayN_lt (y := y.toNat) (m := m.toNat) (d := d.toNat) (by omega) (by omega) (by omega) (by omega) (by omega) (by omega)
    omega
  · omega

/-- Two digits' year. -/
def fullY (y : Int) : Int := if 80 ≤ y then 1900 + y else 2000 + y
/-- Which day a text of the MT family is; below 0: none. -/
def mtV (l : List UInt8) : Int := if l.length = 6 ∧ 0 ≤ dgV l 0 2 then dayV (fullY (dgV l 0 2)) (dgV l 2 2) (dgV l 4 2) else -1
/-- Which day a text of XML is; below 0: none. -/
def xmlV (l : List UInt8) : Int := if l.length = 10 ∧ l.getD 4 0 = 45 ∧ l.getD 7 0 = 45 then dayV (dgV l 0 4) (dgV l 5 2) (dgV l 8 2) else -1
/-- Is a text a moment? -/
def momA (l : List UInt8) : Bool := decide (l.length = 19) && decide (0 ≤ xmlV (l.take 10)) && (l.getD 10 0 == 84) && (l.getD 13 0 == 58) && (l.getD 16 0 == 58)
def momB (l : List UInt8) : Bool := decide (0 ≤ dgV l 11 2) && decide (dgV l 11 2 < 24) && decide (0 ≤ dgV l 14 2) && decide (dgV l 14 2 < 60) && decide (0 ≤ dgV l 17 2) && decide (dgV l 17 2 < 60)
def momV (l : List UInt8) : Bool := momA l && momB l
theorem mtV_bound (l : List UInt8) : -1 ≤ mtV l ∧ mtV l ≤ 36524 := by
  rw [mtV]; split
  · exact dayV_bound _ _ _
  · omega
theorem xmlV_bound (l : List UInt8) : -1 ≤ xmlV l ∧ xmlV l ≤ 36524 := by
  rw [xmlV]; split
  · exact dayV_bound _ _ _
  · omega

theorem refsay6_any (b : Bool) (w : World) :
    Calls Try.prog 13 #[.bool b] w fun e w' => e = .returned (.int .i64 (if b then 0 else 16)) ∧ w' = w := by
  cases b
  all_goals
    go_enter Try.func13, Try.ntmps13
    go_wp2
    go_returns
    exact ⟨rfl, rfl⟩

set_option maxHeartbeats 2000000 in
theorem refmt6_any (s : ByteArray) (w : World) (_ : s.size ≤ 9223372036854775807) :
    Calls Try.prog 10 #[.string s] w fun e w' => e = .returned (.int .i64 (mtV s.data.toList)) ∧ w' = w := by
  have hl : s.data.toList.length = s.size := by simp
  by_cases h6 : s.size = 6
  · have D0 : Hid (∀ w', Calls Try.prog 22 #[.string s, .int .i64 0, .int .i64 2] w' fun e w'' => e = .returned (.int .i64 (dgV s.data.toList 0 2)) ∧ w'' = w') := hid (fun w' => refdigits_any s 0 2 w' (by omega) (by omega) (by omega))
    have D2 : Hid (∀ w', Calls Try.prog 22 #[.string s, .int .i64 2, .int .i64 2] w' fun e w'' => e = .returned (.int .i64 (dgV s.data.toList 2 2)) ∧ w'' = w') := hid (fun w' => refdigits_any s 2 2 w' (by omega) (by omega) (by omega))
    have D4 : Hid (∀ w', Calls Try.prog 22 #[.string s, .int .i64 4, .int .i64 2] w' fun e w'' => e = .returned (.int .i64 (dgV s.data.toList 4 2)) ∧ w'' = w') := hid (fun w' => refdigits_any s 4 2 w' (by omega) (by omega) (by omega))
    have DD := hid (fun y m d (hd : d ≤ 1000) w' => refday_any y m d w' hd)
    have hv : mtV s.data.toList = if 0 ≤ dgV s.data.toList 0 2 then dayV (fullY (dgV s.data.toList 0 2)) (dgV s.data.toList 2 2) (dgV s.data.toList 4 2) else -1 := by
      rw [mtV]; simp only [hl, h6, true_and]
    have b0 := dgV_two s.data.toList 0
    have b2 := dgV_two s.data.toList 2
    have b4 := dgV_two s.data.toList 4
    generalize mtV s.data.toList = v at *
    generalize dgV s.data.toList 0 2 = y at *
    generalize dgV s.data.toList 2 2 = m at *
    generalize dgV s.data.toList 4 2 = d at *
    by_cases hy : y < 0
    · rw [if_neg (by omega)] at hv
      subst hv
      go_enter Try.func10, Try.ntmps10
      go_wp2_with (go_at_call 22; refine (D0.out _).mono ?_; rintro e w' ⟨rfl, hw'⟩; obtain rfl := hw'.symm)
      go_returns
      exact ⟨rfl, rfl⟩
    · rw [if_pos (by omega)] at hv
      by_cases h8 : 80 ≤ y
      · have e : fullY y = 2000 + (y - 100) := by rw [fullY, if_pos h8]; omega
        rw [e] at hv
        have HV := hid hv
        clear hv e
        have DX := hid (fun w' => DD.out (2000 + (y - 100)) m d (by omega) w')
        rw [← HV.out] at DX
        go_enter Try.func10, Try.ntmps10
        go_wp2_with (first
          | (go_at_call 22; (first | with_reducible refine (D0.out _).mono ?_ | with_reducible refine (D2.out _).mono ?_ | with_reducible refine (D4.out _).mono ?_); rintro e w' ⟨rfl, hw'⟩; obtain rfl := hw'.symm)
          | (go_at_call 23; refine (DX.out _).mono ?_; rintro e w' ⟨rfl, hw'⟩; obtain rfl := hw'.symm))
        go_returns
        exact ⟨rfl, rfl⟩
      · have e : fullY y = 2000 + y := by rw [fullY, if_neg h8]
        rw [e] at hv
        have HV := hid hv
        clear hv e
        have DX := hid (fun w' => DD.out (2000 + y) m d (by omega) w')
        rw [← HV.out] at DX
        go_enter Try.func10, Try.ntmps10
        go_wp2_with (first
          | (go_at_call 22; (first | with_reducible refine (D0.out _).mono ?_ | with_reducible refine (D2.out _).mono ?_ | with_reducible refine (D4.out _).mono ?_); rintro e w' ⟨rfl, hw'⟩; obtain rfl := hw'.symm)
          | (go_at_call 23; refine (DX.out _).mono ?_; rintro e w' ⟨rfl, hw'⟩; obtain rfl := hw'.symm))
        go_returns
        exact ⟨rfl, rfl⟩
  · have hv : mtV s.data.toList = -1 := by rw [mtV, if_neg (by omega)]
    rw [hv]
    go_enter Try.func10, Try.ntmps10
    go_wp2
    go_returns
    exact ⟨rfl, rfl⟩

set_option maxHeartbeats 2000000 in
theorem refxml6_any (s : ByteArray) (w : World) (_ : s.size ≤ 9223372036854775807) :
    Calls Try.prog 11 #[.string s] w fun e w' => e = .returned (.int .i64 (xmlV s.data.toList)) ∧ w' = w := by
  have hl : s.data.toList.length = s.size := by simp
  by_cases h10 : s.size = 10
  · have hk4 : 4 < s.size := by omega
    have hk7 : 7 < s.size := by omega
    have e4 := byte_at s 4 hk4
    have e7 := byte_at s 7 hk7
    have hv : xmlV s.data.toList = if s[4] = 45 ∧ s[7] = 45 then dayV (dgV s.data.toList 0 4) (dgV s.data.toList 5 2) (dgV s.data.toList 8 2) else -1 := by
      rw [xmlV, e4, e7]; simp only [hl, h10, true_and]
    have D0 : Hid (∀ w', Calls Try.prog 22 #[.string s, .int .i64 0, .int .i64 4] w' fun e w'' => e = .returned (.int .i64 (dgV s.data.toList 0 4)) ∧ w'' = w') := hid (fun w' => refdigits_any s 0 4 w' (by omega) (by omega) (by omega))
    have D5 : Hid (∀ w', Calls Try.prog 22 #[.string s, .int .i64 5, .int .i64 2] w' fun e w'' => e = .returned (.int .i64 (dgV s.data.toList 5 2)) ∧ w'' = w') := hid (fun w' => refdigits_any s 5 2 w' (by omega) (by omega) (by omega))
    have D8 : Hid (∀ w', Calls Try.prog 22 #[.string s, .int .i64 8, .int .i64 2] w' fun e w'' => e = .returned (.int .i64 (dgV s.data.toList 8 2)) ∧ w'' = w') := hid (fun w' => refdigits_any s 8 2 w' (by omega) (by omega) (by omega))
    have b8 := dgV_two s.data.toList 8
    have DX := hid (fun w' => refday_any (dgV s.data.toList 0 4) (dgV s.data.toList 5 2) (dgV s.data.toList 8 2) w' (by omega))
    clear e4 e7
    generalize xmlV s.data.toList = v at *
    generalize dgV s.data.toList 0 4 = y at *
    generalize dgV s.data.toList 5 2 = m at *
    generalize dgV s.data.toList 8 2 = d at *
    by_cases h4 : s[4] = 45
    · have f4 : s[4].toNat = 45 := by rw [h4]; rfl
      by_cases h7 : s[7] = 45
      · have f7 : s[7].toNat = 45 := by rw [h7]; rfl
        rw [if_pos ⟨h4, h7⟩] at hv
        rw [← hv] at DX
        clear h4 h7 hv
        go_enter Try.func11, Try.ntmps11
        go_wp2_with (first
          | (go_at_call 22; (first | with_reducible refine (D0.out _).mono ?_ | with_reducible refine (D5.out _).mono ?_ | with_reducible refine (D8.out _).mono ?_); rintro e w' ⟨rfl, hw'⟩; obtain rfl := hw'.symm)
          | (go_at_call 23; refine (DX.out _).mono ?_; rintro e w' ⟨rfl, hw'⟩; obtain rfl := hw'.symm))
        go_returns
        exact ⟨rfl, rfl⟩
      · have f7 : s[7].toNat ≠ 45 := by
          intro e; exact h7 (UInt8.toNat_inj.1 (by simpa using (by omega : s[7].toNat = 45)))
        rw [if_neg (fun h => h7 h.2)] at hv
        subst hv
        clear h4 h7
        go_enter Try.func11, Try.ntmps11
        go_wp2
        go_returns
        exact ⟨rfl, rfl⟩
    · have f4 : s[4].toNat ≠ 45 := by
        intro e; exact h4 (UInt8.toNat_inj.1 (by simpa using (by omega : s[4].toNat = 45)))
      rw [if_neg (fun h => h4 h.1)] at hv
      subst hv
      clear h4
      go_enter Try.func11, Try.ntmps11
      go_wp2
      go_returns
      exact ⟨rfl, rfl⟩
  · have hv : xmlV s.data.toList = -1 := by rw [xmlV, if_neg (by omega)]
    rw [hv]
    go_enter Try.func11, Try.ntmps11
    go_wp2
    go_returns
    exact ⟨rfl, rfl⟩
end Go.Proofs.Ytpfmmmedhkgheaa
