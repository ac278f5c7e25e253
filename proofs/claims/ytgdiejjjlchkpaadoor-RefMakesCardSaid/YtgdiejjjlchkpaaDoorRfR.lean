/-
  The statements' own answers for references: good, uetr, say.
-/
import Derived.Test.YtgdiejjjlchkpaaDoorChR
import Derived.Test.YtgdiejjjlchkpaaDoorRfN
namespace Go.Proofs.YtgdiejjjlchkpaaDoor
open Go.RowKit

set_option maxHeartbeats 400000 in
theorem rfsay_any (b : Bool) (w : World) :
    Calls Tryd.prog 7 #[.bool b] w fun e w' => e = .returned (.int .i64 (errR b)) ∧ w' = w := by
  cases b
  all_goals
    go_enter Tryd.func7, Tryd.ntmps7
    go_wp2
    go_returns
    exact ⟨rfl, rfl⟩

theorem refin_x (c : UInt8) (w : World) :
    Calls Tryd.prog 14 #[.int .u8 88, .int .u8 c.toNat] w fun e w' => e = .returned (.bool (inX c)) ∧ w' = w := refin_any 88 c w
theorem rfAt_in {s : ByteArray} {k : Nat} (h : k < s.size) (e : inX s[k] = false) : rfAt s.data.toList k = false := by
  rw [rfAt, byte_at s k h, e]; rfl
theorem rfAt_free {s : ByteArray} {k : Nat} (h : k < s.size) (e : inX s[k] = true) (e2 : ¬ s[k] = 47) : rfAt s.data.toList k = true := by
  rw [rfAt, byte_at s k h, e, decide_eq_false e2]; rfl
theorem rfAt_slash {s : ByteArray} {k : Nat} (h : k < s.size) (e : inX s[k] = true) (e2 : s[k] = 47) :
    rfAt s.data.toList k = !(decide (k = 0) || decide (k + 1 = s.size) || decide (s.data.toList.getD (k - 1) 0 = 47)) := by
  have hl : s.data.toList.length = s.size := by simp
  rw [rfAt, byte_at s k h, e, decide_eq_true e2, hl]; simp

set_option maxRecDepth 100000 in
set_option maxHeartbeats 8000000 in
theorem rfgood_from (s : ByteArray) (m : Nat) (P : Bool) (hs : s.size ≤ 1000)
    (h1 : 1 ≤ s.size) (h2 : decide (s.size ≤ m) = P) (w : World) :
    Calls Tryd.prog 8 #[.string s, .int .i64 m] w fun e w' => e = .returned (.bool (P && rfTo s.data.toList s.size)) ∧ w' = w := by
  have n1 : (s.size : Int) ≥ 1 := by omega
  have ws : IntKind.i64.wrap ((s.size : Int) - 1) = (s.size : Int) - 1 := wrap_id _ (by omega) (by omega)
  go_enter Tryd.func8, Tryd.ntmps8
  go_wp2
  go_loop [5, 6] (fun o i => ∃ k : Nat, k ≤ s.size ∧ i = .int .i64 k ∧ o = .bool (P && rfTo s.data.toList k)) (fun _ i => s.size - (intOf i).toNat)
  case atStart => exact ⟨0, Nat.zero_le _, rfl, by rw [rfTo_zero, Bool.and_true]⟩
  case round =>
    obtain ⟨k, hk, rfl, rfl⟩ := hrel
    clear h2
    by_cases hlt : k < s.size
    · have HS := hid (rfTo_succ s.data.toList k)
      have I1 := hid (fun w' => refin_x s[k] w')
      cases hb : (P && rfTo s.data.toList k)
      · have HN : Hid ((P && rfTo s.data.toList (k + 1)) = false) := by rw [HS.out, ← Bool.and_assoc, hb]; exact rfl
        clear hb I1
        go_wp2
        go_round
        case rel => exact ⟨k + 1, by omega, by go_num, by rw [HN.out]⟩
        case measure => simp [intOf]; omega
      · have HN : Hid ((P && rfTo s.data.toList (k + 1)) = rfAt s.data.toList k) := by rw [HS.out, ← Bool.and_assoc, hb]; exact rfl
        clear hb
        cases hx : inX s[k]
        · have HA := hid (rfAt_in hlt hx)
          rw [hx] at I1
          clear hx
          go_wp2_with (go_at_call 14; refine (I1.out _).mono ?_; rintro e w' ⟨rfl, hw'⟩; obtain rfl := hw'.symm)
          go_round
          case rel => exact ⟨k + 1, by omega, by go_num, by rw [HN.out, HA.out]⟩
          case measure => simp [intOf]; omega
        · by_cases he : s[k] = 47
          · have hq : ((s[k].toNat : Int) == 47) = true := by rw [he]; rfl
            have HA := hid (rfAt_slash hlt hx he)
            rw [hx] at I1
            clear hx he
            by_cases k0 : k = 0
            · subst k0
              go_wp2_with (go_at_call 14; refine (I1.out _).mono ?_; rintro e w' ⟨rfl, hw'⟩; obtain rfl := hw'.symm)
              go_round
              case rel => exact ⟨1, by omega, rfl, by rw [HN.out, HA.out]; rfl⟩
              case measure => simp [intOf]; omega
            · have q0 : ((k : Int) == 0) = false := by rw [beq_eq_false_iff_ne]; omega
              have w1 : IntKind.i64.wrap ((k : Int) - 1) = ((k - 1 : Nat) : Int) := by rw [wrap_id _ (by omega) (by omega)]; omega
              by_cases k1 : k + 1 = s.size
              · have q1 : ((k : Int) == (s.size : Int) - 1) = true := by rw [beq_iff_eq]; omega
                have K1 := hid k1
                have K0 := hid k0
                clear k0 k1
                go_wp2_with (go_at_call 14; refine (I1.out _).mono ?_; rintro e w' ⟨rfl, hw'⟩; obtain rfl := hw'.symm)
                go_round
                case rel => exact ⟨k + 1, by omega, by go_num, by rw [HN.out, HA.out, decide_eq_true K1.out, Bool.or_true]; rfl⟩
                case measure => simp [intOf]; omega
              · have q1 : ((k : Int) == (s.size : Int) - 1) = false := by rw [beq_eq_false_iff_ne]; omega
                have hp : k - 1 < s.size := by omega
                have hp2 : ((k - 1 : Nat) : Int) < s.size := by omega
                have K1 := hid k1
                have K0 := hid k0
                have HB := hid (byte_at s (k - 1) hp)
                by_cases hv : s[k - 1] = 47
                · have q2 : ((s[k - 1].toNat : Int) == 47) = true := by rw [hv]; rfl
                  have HV := hid hv
                  clear k0 k1 hv
                  go_wp2_with (go_at_call 14; refine (I1.out _).mono ?_; rintro e w' ⟨rfl, hw'⟩; obtain rfl := hw'.symm)
                  go_round
                  case rel => exact ⟨k + 1, by omega, by go_num, by rw [HN.out, HA.out, HB.out, decide_eq_true HV.out, Bool.or_true]; rfl⟩
                  case measure => simp [intOf]; omega
                · have q2 : ((s[k - 1].toNat : Int) == 47) = false := by
                    rw [beq_eq_false_iff_ne]; intro e; exact hv (UInt8.toNat_inj.1 (by have : (47 : UInt8).toNat = 47 := rfl; omega))
                  have HV := hid hv
                  clear k0 k1 hv
                  go_wp2_with (go_at_call 14; refine (I1.out _).mono ?_; rintro e w' ⟨rfl, hw'⟩; obtain rfl := hw'.symm)
                  go_round
                  case rel => exact ⟨k + 1, by omega, by go_num, by rw [HN.out, HA.out, HB.out, decide_eq_false HV.out, decide_eq_false K1.out, decide_eq_false K0.out]; rfl⟩
                  case measure => simp [intOf]; omega
          · have hq : ((s[k].toNat : Int) == 47) = false := by
              rw [beq_eq_false_iff_ne]; intro e; exact he (UInt8.toNat_inj.1 (by have : (47 : UInt8).toNat = 47 := rfl; omega))
            have HA := hid (rfAt_free hlt hx he)
            rw [hx] at I1
            clear hx he
            go_wp2_with (go_at_call 14; refine (I1.out _).mono ?_; rintro e w' ⟨rfl, hw'⟩; obtain rfl := hw'.symm)
            go_round
            case rel => exact ⟨k + 1, by omega, by go_num, by rw [HN.out, HA.out]⟩
            case measure => simp [intOf]; omega
    · obtain rfl : k = s.size := by omega
      go_wp2
      go_returns
      exact ⟨rfl, rfl⟩

theorem rfgood_any (s : ByteArray) (m : Nat) (hs : s.size ≤ 1000) (w : World) :
    Calls Tryd.prog 8 #[.string s, .int .i64 m] w fun e w' => e = .returned (.bool (rfV s.data.toList m)) ∧ w' = w := by
  have hl : s.data.toList.length = s.size := by simp
  rw [rfV, hl]
  by_cases h : 1 ≤ s.size
  · rw [decide_eq_true h, Bool.true_and]
    exact rfgood_from s m _ hs h rfl w
  · rw [decide_eq_false h, Bool.false_and]
    have z : s.size = 0 := by omega
    have n1 : ¬ (s.size : Int) ≥ 1 := by omega
    have n2 : ¬ (0 : Int) < s.size := by omega
    clear h hl hs
    go_enter Tryd.func8, Tryd.ntmps8
    go_wp2
    go_loop [5, 6] (fun o i => i = .int .i64 0 ∧ o = .bool false) (fun _ i => s.size - (intOf i).toNat)
    case atStart => exact ⟨rfl, rfl⟩
    case round =>
      obtain ⟨rfl, rfl⟩ := hrel
      go_wp2
      go_returns
      exact ⟨rfl, rfl⟩

theorem utTo_mono (l : List UInt8) : ∀ (d k : Nat), utTo l k = false → utTo l (k + d) = false
  | 0, _, h => h
  | d + 1, k, h => by rw [← Nat.add_assoc, utTo_succ, utTo_mono l d k h]; rfl
set_option maxRecDepth 100000 in
set_option maxHeartbeats 8000000 in
theorem rfuetr_from (s : ByteArray) (hz : s.size = 36) (w : World) :
    Calls Tryd.prog 11 #[.string s] w fun e w' => e = .returned (.bool (utTo s.data.toList s.size)) ∧ w' = w := by
  have z36 : ((s.size : Int) == 36) = true := by rw [hz]; rfl
  have HZ := hid hz
  have hle : s.size ≤ 36 := by omega
  clear hz
  go_enter Tryd.func11, Tryd.ntmps11
  go_wp2
  go_loop [3, 4] (fun o i => ∃ k : Nat, k ≤ s.size ∧ i = .int .i64 k ∧ o = .bool (utTo s.data.toList k)) (fun _ i => s.size - (intOf i).toNat)
  case atStart => exact ⟨0, Nat.zero_le _, rfl, rfl⟩
  case round =>
    obtain ⟨k, hk, rfl, rfl⟩ := hrel
    by_cases hlt : k < s.size
    · cases hb : utTo s.data.toList k
      · have HN : Hid (utTo s.data.toList s.size = false) := by
          have := utTo_mono s.data.toList (s.size - k) k hb
          rwa [Nat.add_sub_cancel' hk] at this
        clear hb
        go_wp2
        go_returns
        rw [HN.out]
        exact ⟨rfl, rfl⟩
      · have HN := hid (show utTo s.data.toList (k + 1) = utAt k s[k] by rw [utTo_succ, hb, byte_at s k hlt]; rfl)
        clear hb
        by_cases c1 : k = 8 ∨ k = 13 ∨ k = 18 ∨ k = 23
        · have HA := hid (show utAt k s[k] = ((s[k].toNat : Int) == 45) by rw [utAt, if_pos c1]; exact u8_dec _ 45)
          rcases c1 with rfl | rfl | rfl | rfl
          all_goals
            go_wp2
            go_round
            case rel => first | exact ⟨9, by omega, rfl, by rw [HN.out, HA.out]⟩ | exact ⟨14, by omega, rfl, by rw [HN.out, HA.out]⟩ | exact ⟨19, by omega, rfl, by rw [HN.out, HA.out]⟩ | exact ⟨24, by omega, rfl, by rw [HN.out, HA.out]⟩
            case measure => simp [intOf]; omega
        · have q8 : ((k : Int) == 8) = false := by rw [beq_eq_false_iff_ne]; omega
          have q13 : ((k : Int) == 13) = false := by rw [beq_eq_false_iff_ne]; omega
          have q18 : ((k : Int) == 18) = false := by rw [beq_eq_false_iff_ne]; omega
          have q23 : ((k : Int) == 23) = false := by rw [beq_eq_false_iff_ne]; omega
          by_cases c2 : k = 14
          · have HA := hid (show utAt k s[k] = ((s[k].toNat : Int) == 52) by rw [utAt, if_neg c1, if_pos c2]; exact u8_dec _ 52)
            subst c2
            clear c1
            go_wp2
            go_round
            case rel => exact ⟨15, by omega, rfl, by rw [HN.out, HA.out]⟩
            case measure => simp [intOf]; omega
          · have q14 : ((k : Int) == 14) = false := by rw [beq_eq_false_iff_ne]; omega
            by_cases c3 : k = 19
            · have HA := hid (show utAt k s[k] = (decide (s[k] = 56) || decide (s[k] = 57) || decide (s[k] = 97) || decide (s[k] = 98)) by rw [utAt, if_neg c1, if_neg c2, if_pos c3])
              subst c3
              clear c1 c2
              by_cases e1 : s[19] = 56
              · have d1 : ((s[19].toNat : Int) == 56) = true := u8_is e1
                rw [decide_eq_true e1] at HA
                clear e1
                go_wp2
                go_round
                case rel => exact ⟨20, by omega, rfl, by rw [HN.out, HA.out]; rfl⟩
                case measure => simp [intOf]; omega
              · have d1 : ((s[19].toNat : Int) == 56) = false := u8_isnt e1
                rw [decide_eq_false e1] at HA
                clear e1
                by_cases e2 : s[19] = 57
                · have d2 : ((s[19].toNat : Int) == 57) = true := u8_is e2
                  rw [decide_eq_true e2] at HA
                  clear e2
                  go_wp2
                  go_round
                  case rel => exact ⟨20, by omega, rfl, by rw [HN.out, HA.out]; rfl⟩
                  case measure => simp [intOf]; omega
                · have d2 : ((s[19].toNat : Int) == 57) = false := u8_isnt e2
                  rw [decide_eq_false e2] at HA
                  clear e2
                  by_cases e3 : s[19] = 97
                  · have d3 : ((s[19].toNat : Int) == 97) = true := u8_is e3
                    rw [decide_eq_true e3] at HA
                    clear e3
                    go_wp2
                    go_round
                    case rel => exact ⟨20, by omega, rfl, by rw [HN.out, HA.out]; rfl⟩
                    case measure => simp [intOf]; omega
                  · have d3 : ((s[19].toNat : Int) == 97) = false := u8_isnt e3
                    rw [decide_eq_false e3, u8_dec] at HA
                    clear e3
                    go_wp2
                    go_round
                    case rel => exact ⟨20, by omega, rfl, by rw [HN.out, HA.out]; rfl⟩
                    case measure => simp [intOf]; omega
            · have q19 : ((k : Int) == 19) = false := by rw [beq_eq_false_iff_ne]; omega
              have HA := hid (show utAt k s[k] = hxV s[k] by rw [utAt, if_neg c1, if_neg c2, if_neg c3])
              clear c1 c2 c3
              have hc : s[k].toNat < 48 ∨ (48 ≤ s[k].toNat ∧ s[k].toNat ≤ 57) ∨ (57 < s[k].toNat ∧ 48 ≤ s[k].toNat ∧ s[k].toNat < 97) ∨ (57 < s[k].toNat ∧ 48 ≤ s[k].toNat ∧ 97 ≤ s[k].toNat ∧ s[k].toNat ≤ 102) ∨ (57 < s[k].toNat ∧ 48 ≤ s[k].toNat ∧ 97 ≤ s[k].toNat ∧ 102 < s[k].toNat) := by omega
              have hv : hxV s[k] = ((decide (48 ≤ s[k].toNat) && decide (s[k].toNat ≤ 57)) || (decide (97 ≤ s[k].toNat) && decide (s[k].toNat ≤ 102))) := rfl
              rw [hv] at HA
              clear hv
              rcases hc with h1 | ⟨h1, h2⟩ | ⟨h1, h2, h3⟩ | ⟨h1, h2, h3, h4⟩ | ⟨h1, h2, h3, h4⟩
              all_goals
                go_wp2
                go_round
                case rel =>
                  refine ⟨k + 1, by omega, by go_num, ?_⟩
                  rw [HN.out, HA.out]
                  refine congrArg Value.bool ?_
                  refine Bool.eq_iff_iff.2 ⟨fun h => ?_, fun h => ?_⟩ <;> simp only [Bool.or_eq_true, Bool.and_eq_true, decide_eq_true_eq, Bool.false_eq_true] at h ⊢ <;> omega
                case measure => simp [intOf]; omega
    · obtain rfl : k = s.size := by omega
      go_wp2
      go_returns
      exact ⟨rfl, rfl⟩

theorem rfuetr_any (s : ByteArray) (hs : s.size ≤ 1000) (w : World) :
    Calls Tryd.prog 11 #[.string s] w fun e w' => e = .returned (.bool (utV s.data.toList)) ∧ w' = w := by
  have hl : s.data.toList.length = s.size := by simp
  rw [utV, hl]
  by_cases h : s.size = 36
  · rw [decide_eq_true h, Bool.true_and]
    exact rfuetr_from s h w
  · rw [decide_eq_false h, Bool.false_and]
    have z36 : ((s.size : Int) == 36) = false := by rw [beq_eq_false_iff_ne]; omega
    clear h hl
    go_enter Tryd.func11, Tryd.ntmps11
    go_wp2
    go_loop [3, 4] (fun o i => i = .int .i64 0 ∧ o = .bool false) (fun _ i => s.size - (intOf i).toNat)
    case atStart => exact ⟨rfl, rfl⟩
    case round =>
      obtain ⟨rfl, rfl⟩ := hrel
      by_cases hlt : 0 < s.size
      · have hlt2 : (0 : Int) < s.size := by omega
        go_wp2
        go_returns
        exact ⟨rfl, rfl⟩
      · have hlt2 : ¬ (0 : Int) < s.size := by omega
        go_wp2
        go_returns
        exact ⟨rfl, rfl⟩
end Go.Proofs.YtgdiejjjlchkpaaDoor
