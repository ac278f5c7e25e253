/-
  Package date: which day it is.
-/
import Derived.Test.YtpfmmmedhkgheaaDtA
import Derived.Test.YtpfmmmedhkgheaaDtD
namespace Go.Proofs.Ytpfmmmedhkgheaa
open Go.RowKit

theorem cum_months {y k : Nat} (hy : 1980 ≤ y) (hy2 : y ≤ 2079) (hk : 1 ≤ k) (hk2 : k ≤ 12) : cum (12 * (y - 1980) + k) = cum (12 * (y - 1980) + (k - 1)) + dmV y k := by
  rw [dmV_len hy hy2 hk hk2]; exact cum_step hy hk hk2
theorem cum_year {y : Nat} (hy : 1980 ≤ y) (hy2 : y ≤ 2079) : cum (12 * (y + 1 - 1980)) = cum (12 * (y - 1980)) + (if leapB y then 366 else 365) := by
  have h := fun k => @cum_months y k hy hy2
  have e : 12 * (y + 1 - 1980) = 12 * (y - 1980) + 12 := by omega
  have a1 := h 1 (by omega) (by omega)
  have a2 := h 2 (by omega) (by omega)
  have a3 := h 3 (by omega) (by omega)
  have a4 := h 4 (by omega) (by omega)
  have a5 := h 5 (by omega) (by omega)
  have a6 := h 6 (by omega) (by omega)
  have a7 := h 7 (by omega) (by omega)
  have a8 := h 8 (by omega) (by omega)
  have a9 := h 9 (by omega) (by omega)
  have a10 := h 10 (by omega) (by omega)
  have a11 := h 11 (by omega) (by omega)
  have a12 := h 12 (by omega) (by omega)
  rw [e]
  simp only [dmV, Nat.reduceSub, Nat.add_zero] at a1 a2 a3 a4 a5 a6 a7 a8 a9 a10 a11 a12
  cases hb : leapB y <;> simp [hb] at a1 a2 a3 a4 a5 a6 a7 a8 a9 a10 a11 a12 ⊢ <;> omega

set_option maxRecDepth 100000 in
set_option maxHeartbeats 8000000 in
theorem dateday_any (s : ByteArray) (w : World) (hs : s.size ≤ 9223372036854775807) :
    Calls Try.prog 9 #[.string s] w fun e w' => e = .returned (.tuple #[.int .i64 (if 0 ≤ xmlV s.data.toList then xmlV s.data.toList else 0), .int .i64 (dcode (decide (0 ≤ xmlV s.data.toList)))]) ∧ Below w.heap.size w w' := by
  have H := hid (datereadxml_any s w hs)
  generalize xmlV s.data.toList = x at *
  by_cases hx : 0 ≤ x
  · rw [decide_eq_true hx] at H ⊢
    rw [if_pos hx]
    have h1 : ∀ P : Prop, (0 ≤ x → P) = P := fun P => by simp [hx]
    simp only [h1] at H
    clear h1
    go_enter Try.func9, Try.ntmps9
    go_wp2_with fail
    refine H.out.mono ?_
    rintro e w1 ⟨⟨y, m, d, rfl, y1, y2, m1, m2, d1, d2, hN⟩, h1⟩
    clear H
    have hlen := (lenM_bound y m).2
    have hbd := dayN_lt y1 y2 m1 m2 d1 d2
    have hNe : dayN y m d = cum (12 * (y - 1980) + (m - 1)) + (d - 1) := by rw [dayN]; congr 2; omega
    have HC := hid (fun k hk hk2 => @cum_months y k y1 y2 hk hk2)
    have HY := hid (fun j (hj : 1980 ≤ j) (hj2 : j ≤ 2079) => @cum_year j hj hj2)
    have HM := hid (fun (a b : Nat) (h : a ≤ b) => cum_mono h)
    have DM := hid (fun (k : Nat) (hk : k ≤ 100) w' => datedays_any y k w' (by omega) hk)
    have DY := hid (fun (j : Nat) (hj : j ≤ 10000) w' => dateyear_any j w' hj)
    have HN := hid hN
    have HE := hid hNe
    have hz := h1.size
    have b1 : Below w.heap.size w (w1.alloc (.cells #[.int .i64 y, .int .i64 m, .int .i64 d] 37)) := h1.alloc h1.size _
    have hd31 : d ≤ 31 := by omega
    clear hN hNe d2 hlen
    simp only [dayS, dcode, if_true]
    go_wp2
    go_loop [6, 7] (fun n i => ∃ k a : Nat, 1 ≤ k ∧ k ≤ m ∧ i = .int .i64 k ∧ n = .int .i64 a ∧ Hid (a + cum (12 * (y - 1980)) = (d - 1) + cum (12 * (y - 1980) + (k - 1)))) (fun _ i => m - (intOf i).toNat)
    case atStart => exact ⟨1, d - 1, by omega, by omega, rfl, int_eq (by omega), hid rfl⟩
    case round =>
      obtain ⟨k, a, hk1, hk2, rfl, rfl, HA⟩ := hrel
      by_cases hlt : k < m
      · have hstep : Hid (a + dmV y k + cum (12 * (y - 1980)) = (d - 1) + cum (12 * (y - 1980) + (k + 1 - 1))) := hid (by
          have h1 := HA.out
          have h2 := HC.out k hk1 (by omega)
          rw [show k + 1 - 1 = k by omega]; omega)
        have hab : a ≤ 40000 := by
          have h1 := HA.out
          have h2 := cum_le (k := 12 * (y - 1980) + (k - 1)) (by omega)
          omega
        have hdm := dmV_bound y k
        have DK := hid (DM.out k (by omega))
        generalize dmV y k = L at *
        go_wp2_with (go_at_call 20; with_reducible refine (DK.out _).mono ?_; rintro e w' ⟨rfl, hw'⟩; obtain rfl := hw'.symm)
        go_round
        case rel => exact ⟨k + 1, a + L, by omega, by omega, by go_num, by go_num, hstep⟩
        case measure => simp [intOf]; omega
      · obtain rfl : k = m := by omega
        have hA : Hid (a + cum (12 * (y - 1980)) = dayN y k d) := hid (by rw [HE.out]; have := HA.out; omega)
        clear HA
        have hab : a ≤ 40000 := by have := hA.out; omega
        go_wp2
        go_loop [6, 8] (fun n i => ∃ j b : Nat, 1980 ≤ j ∧ j ≤ y ∧ i = .int .i64 j ∧ n = .int .i64 b ∧ Hid (b = a + cum (12 * (j - 1980)))) (fun _ i => y - (intOf i).toNat)
        case atStart => exact ⟨1980, a, by omega, by omega, rfl, rfl, hid rfl⟩
        case round =>
          obtain ⟨j, b, hj1, hj2, rfl, rfl, HB⟩ := hrel
          by_cases hlt2 : j < y
          · have hstep : Hid (b + (if leapB j then 366 else 365) = a + cum (12 * (j + 1 - 1980))) := hid (by
              have h1 := HB.out
              have h2 := HY.out j hj1 (by omega)
              omega)
            have hbb : b ≤ 80000 := by
              have h1 := HB.out
              have h2 := cum_le (k := 12 * (j - 1980)) (by omega)
              omega
            have DJ := hid (DY.out j (by omega))
            have hq : (if leapB j then 366 else 365) ≤ 366 := by split <;> omega
            generalize (if leapB j then 366 else 365) = L at *
            go_wp2_with (go_at_call 21; with_reducible refine (DJ.out _).mono ?_; rintro e w' ⟨rfl, hw'⟩; obtain rfl := hw'.symm)
            go_round
            case rel => exact ⟨j + 1, b + L, by omega, by omega, by go_num, by go_num, hstep⟩
            case measure => simp [intOf]; omega
          · obtain rfl : j = y := by omega
            have hfin : Hid ((b : Int) = x) := hid (by have h1 := HB.out; have h2 := hA.out; have h3 := HN.out; omega)
            go_wp2
            go_returns
            rw [hfin.out]
            exact ⟨rfl, b1⟩
  · rw [decide_eq_false hx] at H ⊢
    rw [if_neg hx]
    go_enter Try.func9, Try.ntmps9
    go_wp2_with fail
    refine H.out.mono ?_
    rintro e w1 ⟨⟨y, m, d, rfl, -⟩, h1⟩
    clear H
    have hz := h1.size
    simp only [dayS, dcode, Bool.false_eq_true, if_false]
    go_wp2
    go_returns
    refine ⟨rfl, ?_⟩
    go_grown
end Go.Proofs.Ytpfmmmedhkgheaa
