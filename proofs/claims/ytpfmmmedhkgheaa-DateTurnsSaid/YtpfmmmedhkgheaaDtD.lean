/-
  The document's own answers for days: day.
-/
import Derived.Test.YtpfmmmedhkgheaaDtR
namespace Go.Proofs.Ytpfmmmedhkgheaa
open Go.RowKit

theorem cum_step {y k : Nat} (hy : 1980 ≤ y) (hk : 1 ≤ k) (hk2 : k ≤ 12) : cum (12 * (y - 1980) + k) = cum (12 * (y - 1980) + (k - 1)) + lenM y k := by
  have h := lenK_of (k := 12 * (y - 1980) + (k - 1)) hk hk2 (by omega) hy
  have e : 12 * (y - 1980) + k = 12 * (y - 1980) + (k - 1) + 1 := by omega
  rw [e, cum, h]

set_option maxRecDepth 100000 in
set_option maxHeartbeats 4000000 in
theorem refday_bad (y m d : Int) (w : World) (h : y < 1980 ∨ 1980 ≤ y ∧ (2079 < y ∨ y ≤ 2079 ∧ (m < 1 ∨ 1 ≤ m ∧ (12 < m ∨ m ≤ 12 ∧ d < 1)))) :
    Calls Try.prog 23 #[.int .i64 y, .int .i64 m, .int .i64 d] w fun e w' => e = .returned (.int .i64 (-1)) ∧ w' = w := by
  rcases h with h | ⟨h1, h | ⟨h2, h | ⟨h3, h | ⟨h4, h⟩⟩⟩⟩
  all_goals
    go_enter Try.func23, Try.ntmps23
    go_wp2
    go_returns
    exact ⟨rfl, rfl⟩

set_option maxRecDepth 100000 in
set_option maxHeartbeats 8000000 in
theorem refday_good (y m d : Nat) (w : World) (hy : 1980 ≤ y) (hy2 : y ≤ 2079) (hm : 1 ≤ m) (hm2 : m ≤ 12) (hd : 1 ≤ d) (hd2 : d ≤ 1000) :
    Calls Try.prog 23 #[.int .i64 y, .int .i64 m, .int .i64 d] w fun e w' => e = .returned (.int .i64 (if d ≤ lenM y m then ((dayN y m d : Nat) : Int) else -1)) ∧ w' = w := by
  have hL := lenM_bound y m
  have HL := hid (fun a b (ha : a ≤ 3000) (hb : b ≤ 100) w' => reflength_any a b w' ha hb)
  obtain ⟨v, hv⟩ : ∃ v : Int, v = (if d ≤ lenM y m then ((dayN y m d : Nat) : Int) else -1) := ⟨_, rfl⟩
  rw [← hv]
  by_cases hdl : d ≤ lenM y m
  · rw [if_pos hdl] at hv
    have HV := hid hv
    clear hv
    have hc0 := cum_le (k := 12 * (y - 1980)) (by omega)
    have HM := hid (fun a (ha : a ≤ 1200) => cum_le ha)
    have HS := hid (fun a k (ha : 1980 ≤ a) (hk : 1 ≤ k) (hk2 : k ≤ 12) => cum_step ha hk hk2)
    have hmono := cum_mono (a := 12 * (y - 1980)) (b := 12 * (y - 1980) + (m - 1)) (by omega)
    have hc1 := cum_le (k := 12 * (y - 1980) + (m - 1)) (by omega)
    have hV2 : dayN y m d = cum (12 * (y - 1980) + (m - 1)) + (d - 1) := by
      rw [dayN, show 12 * (y - 1980) + m - 1 = 12 * (y - 1980) + (m - 1) by omega]
    rw [hV2] at HV
    clear hV2
    obtain ⟨D, hD⟩ : ∃ D, D = (d - 1) + (cum (12 * (y - 1980) + (m - 1)) - cum (12 * (y - 1980))) := ⟨_, rfl⟩
    have hD2 : D ≤ 40000 := by omega
    have HD := hid hD
    clear hD
    have g1 : decide ((y : Int) < 1980) = false := by simp; omega
    have g2 : decide ((2079 : Int) < (y : Int)) = false := by simp; omega
    have g3 : decide ((m : Int) < 1) = false := by simp; omega
    have g4 : decide ((12 : Int) < (m : Int)) = false := by simp; omega
    have g5 : decide ((d : Int) < 1) = false := by simp; omega
    have g6 : decide (lenM y m < d) = false := by simp; omega
    go_enter Try.func23, Try.ntmps23
    go_wp2_with (go_at_call 28; refine (HL.out y m (by omega) (by omega) _).mono ?_; rintro e w' ⟨rfl, hw'⟩; obtain rfl := hw'.symm)
    go_loopw [7, 8] (fun n i wr => ∃ k a : Nat, 1 ≤ k ∧ k ≤ m ∧ i = .int .i64 k ∧ n = .int .i64 a ∧ a = (d - 1) + (cum (12 * (y - 1980) + (k - 1)) - cum (12 * (y - 1980))) ∧ a ≤ 40000 ∧ wr = w) (fun _ i _ => m - (intOf i).toNat)
    case atStart => exact ⟨1, d - 1, by omega, by omega, rfl, by go_num, by simp, by omega, rfl⟩
    case round =>
      obtain ⟨k, a, hk1, hk, rfl, rfl, ha, ha2, hwr⟩ := hrel
      obtain rfl := hwr.symm
      by_cases hlt : k < m
      · have hs := HS.out y k (by omega) (by omega) (by omega)
        have h1 := cum_mono (a := 12 * (y - 1980)) (b := 12 * (y - 1980) + (k - 1)) (by omega)
        have h2 := HM.out (12 * (y - 1980) + k) (by omega)
        have HA := hid (show a + lenM y k = (d - 1) + (cum (12 * (y - 1980) + (k + 1 - 1)) - cum (12 * (y - 1980))) ∧ a + lenM y k ≤ 40000 by
          rw [Nat.add_sub_cancel]; omega)
        have hl := lenM_bound y k
        clear hs h1 h2 ha
        go_wp2_with (go_at_call 28; refine (HL.out y k (by omega) (by omega) _).mono ?_; rintro e w' ⟨rfl, hw'⟩; obtain rfl := hw'.symm)
        go_roundw
        case rel => exact ⟨k + 1, a + lenM y k, by omega, by omega, by go_num, by go_num, HA.out.1, HA.out.2, trivial⟩
        case measure => simp [intOf]; omega
      · obtain rfl : k = m := by omega
        have haD : a = D := by rw [HD.out, ha]
        subst haD
        clear ha
        go_wp2
        go_loopw [7, 9] (fun n i wr => ∃ k b : Nat, 1980 ≤ k ∧ k ≤ y ∧ i = .int .i64 k ∧ n = .int .i64 b ∧ b = a + cum (12 * (k - 1980)) ∧ b ≤ 90000 ∧ wr = w) (fun _ i _ => y - (intOf i).toNat)
        case atStart => exact ⟨1980, a, by omega, by omega, rfl, rfl, rfl, by omega, rfl⟩
        case round =>
          obtain ⟨z, b, hz1, hz, rfl, rfl, hb, hb2, hwr⟩ := hrel
          obtain rfl := hwr.symm
          by_cases hlt2 : z < y
          · have HB := hid hb
            clear hb
            go_wp2
            go_loopw [7, 10] (fun n i wr => ∃ j c : Nat, 1 ≤ j ∧ j ≤ 13 ∧ i = .int .i64 j ∧ n = .int .i64 c ∧ c = a + cum (12 * (z - 1980) + (j - 1)) ∧ c ≤ 90000 ∧ wr = w) (fun _ i _ => 13 - (intOf i).toNat)
            case atStart => exact ⟨1, b, by omega, by omega, rfl, rfl, by rw [HB.out]; rfl, by omega, rfl⟩
            case round =>
              obtain ⟨j, c, hj1, hj, rfl, rfl, hc, hc2, hwr2⟩ := hrel
              obtain rfl := hwr2.symm
              by_cases hlt3 : j ≤ 12
              · have hs := HS.out z j (by omega) (by omega) (by omega)
                have h2 := HM.out (12 * (z - 1980) + j) (by omega)
                have HA := hid (show c + lenM z j = a + cum (12 * (z - 1980) + (j + 1 - 1)) ∧ c + lenM z j ≤ 90000 by
                  rw [Nat.add_sub_cancel]; omega)
                have hl := lenM_bound z j
                clear hs h2 hc
                go_wp2_with (go_at_call 28; refine (HL.out z j (by omega) (by omega) _).mono ?_; rintro e w' ⟨rfl, hw'⟩; obtain rfl := hw'.symm)
                go_roundw
                case rel => exact ⟨j + 1, c + lenM z j, by omega, by omega, by go_num, by go_num, HA.out.1, HA.out.2, trivial⟩
                case measure => simp [intOf]; omega
              · obtain rfl : j = 13 := by omega
                have HC := hid (show c = a + cum (12 * (z + 1 - 1980)) by rw [hc, show 12 * (z - 1980) + (13 - 1) = 12 * (z + 1 - 1980) by omega])
                clear hc
                go_wp2
                go_roundw
                case rel => exact ⟨z + 1, c, by omega, by omega, by go_num, rfl, HC.out, hc2, trivial⟩
                case measure => simp [intOf]; omega
          · obtain rfl : z = y := by omega
            have hx : v = (b : Int) := by rw [HV.out, hb, HD.out]; omega
            have HX := hid hx
            clear hx hb
            go_wp2
            go_returns
            rw [HX.out]
            exact ⟨rfl, rfl⟩
  · rw [if_neg hdl] at hv
    subst hv
    go_enter Try.func23, Try.ntmps23
    go_wp2_with (go_at_call 28; refine (HL.out y m (by omega) (by omega) _).mono ?_; rintro e w' ⟨rfl, hw'⟩; obtain rfl := hw'.symm)
    go_returns
    exact ⟨rfl, rfl⟩

theorem refday_any (y m d : Int) (w : World) (hd2 : d ≤ 1000) :
    Calls Try.prog 23 #[.int .i64 y, .int .i64 m, .int .i64 d] w fun e w' => e = .returned (.int .i64 (dayV y m d)) ∧ w' = w := by
  by_cases h : 1980 ≤ y ∧ y ≤ 2079 ∧ 1 ≤ m ∧ m ≤ 12 ∧ 1 ≤ d
  · obtain ⟨h1, h2, h3, h4, h5⟩ := h
    obtain ⟨a, rfl⟩ : ∃ a : Nat, y = a := ⟨y.toNat, by omega⟩
    obtain ⟨b, rfl⟩ : ∃ b : Nat, m = b := ⟨m.toNat, by omega⟩
    obtain ⟨c, rfl⟩ : ∃ c : Nat, d = c := ⟨d.toNat, by omega⟩
    have e : dayV (a : Int) (b : Int) (c : Int) = if c ≤ lenM a b then ((dayN a b c : Nat) : Int) else -1 := by
      by_cases hl : c ≤ lenM a b
      · rw [if_pos hl, dayV, if_pos (by simp [isDay]; omega)]; rfl
      · rw [if_neg hl, dayV, if_neg (by simp [isDay]; omega)]
    rw [e]
    exact refday_good a b c w (by omega) (by omega) (by omega) (by omega) (by omega) (by omega)
  · have e : dayV y m d = -1 := by rw [dayV, if_neg (by simp [isDay]; omega)]
    rw [e]
    exact refday_bad y m d w (by omega)
end Go.Proofs.Ytpfmmmedhkgheaa
