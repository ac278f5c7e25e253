/-
  The walk of DateTells.
-/
import Derived.Test.YtpfmmmedhkgheaaDtW
namespace Go.Proofs.Ytpfmmmedhkgheaa
open Go.RowKit

theorem dt_size (l : List UInt8) : (⟨l.toArray⟩ : ByteArray).size = l.length := by rw [← ByteArray.size_data]; simp

set_option maxHeartbeats 1000000 in
theorem dTells_long (s : ByteArray) (w : World) (hs : s.size ≤ 9223372036854775807) (h : 100 < s.size) :
    Calls Try.prog 3 #[.string s] w fun e w' => e = .returned (.bool true) ∧ Below w.heap.size w w' := by
  go_enter Try.func3, Try.ntmps3
  go_wp2_with fail
  refine (dtwakes_any _).mono ?_
  rintro e w1 ⟨rfl, h1⟩
  go_wp2
  go_returns
  exact ⟨rfl, h1⟩

set_option maxRecDepth 100000 in
set_option maxHeartbeats 16000000 in
theorem dTells_short (s : ByteArray) (w : World) (h : s.size ≤ 100) :
    Calls Try.prog 3 #[.string s] w fun e w' => e = .returned (.bool true) ∧ Below w.heap.size w w' := by
  have hl : s.data.toList.length = s.size := by simp
  have C1 := hid (fun w' => datecheckmt_any s w' (by omega))
  have C2 := hid (fun w' => datecheckxml_any s w' (by omega))
  have C3 := hid (fun w' => datecheckmoment_any s w' (by omega))
  have P1 := hid (fun w' => datetoxml_any s w' (by omega))
  have P2 := hid (fun w' => datetomt_any s w' (by omega))
  have P3 := hid (fun w' => dateday_any s w' (by omega))
  have M := hid (fun w' => refmt6_any s w' (by omega))
  have X := hid (fun w' => refxml6_any s w' (by omega))
  have R := hid (fun w' => refmoment_any s w' (by omega))
  have SY := hid (fun w' => refsay6_any true w')
  have SN := hid (fun w' => refsay6_any false w')
  have MX : Hid (0 ≤ mtV s.data.toList → ∀ w', Calls Try.prog 11 #[.string ⟨(toX s.data.toList).toArray⟩] w' fun e w'' => e = .returned (.int .i64 (mtV s.data.toList)) ∧ w'' = w') := hid (fun hm w' => by
    have h6 : s.data.toList.length = 6 := by
      rw [mtV] at hm; split at hm
      · rename_i hc; exact hc.1
      · omega
    have := refxml6_any ⟨(toX s.data.toList).toArray⟩ w' (by rw [dt_size, toX]; simp only [List.length_append, List.length_take, List.length_drop, List.length_cons, List.length_nil]; split <;> simp <;> omega)
    rw [← toX_day hm]
    exact this)
  have XM : Hid (0 ≤ xmlV s.data.toList → ∀ w', Calls Try.prog 10 #[.string ⟨(toM s.data.toList).toArray⟩] w' fun e w'' => e = .returned (.int .i64 (xmlV s.data.toList)) ∧ w'' = w') := hid (fun hm w' => by
    have := refmt6_any ⟨(toM s.data.toList).toArray⟩ w' (by rw [dt_size, toM]; simp only [List.length_append, List.length_take, List.length_drop]; omega)
    rw [← toM_day hm]
    exact this)
  have bm := mtV_bound s.data.toList
  have bx := xmlV_bound s.data.toList
  generalize toX s.data.toList = tx at *
  generalize toM s.data.toList = tm at *
  generalize mtV s.data.toList = m at *
  generalize xmlV s.data.toList = x at *
  generalize momV s.data.toList = mo at *
  have hx : ∃ (bm bx : Bool), decide (0 ≤ m) = bm ∧ decide (0 ≤ x) = bx := ⟨_, _, rfl, rfl⟩
  obtain ⟨fm, fx, hfm, hfx⟩ := hx
  have SM : Hid (∀ w', Calls Try.prog 13 #[.bool (decide (0 ≤ m))] w' fun e w'' => e = .returned (.int .i64 (dcode fm)) ∧ w'' = w') := hid (fun w' => by rw [hfm]; exact refsay6_any fm w')
  have SX : Hid (∀ w', Calls Try.prog 13 #[.bool (decide (0 ≤ x))] w' fun e w'' => e = .returned (.int .i64 (dcode fx)) ∧ w'' = w') := hid (fun w' => by rw [hfx]; exact refsay6_any fx w')
  rw [hfm] at C1 P1
  rw [hfx] at C2 P2 P3
  cases fm <;> cases fx <;> cases mo
  all_goals
    simp only [decide_eq_true_eq, decide_eq_false_iff_not] at hfm hfx
    first | rw [if_pos hfx] at P3 | rw [if_neg hfx] at P3
    simp only [dcode, oneOf, if_true, Bool.false_eq_true, if_false] at C1 C2 C3 P1 P2 P3 SY SN SM SX
    have MX2 := hid (fun q => MX.out q)
    have XM2 := hid (fun q => XM.out q)
    go_enter Try.func3, Try.ntmps3
    go_wp2_with fail
    refine (P1.out _).mono ?_
    rintro e w1 ⟨rfl, b1⟩
    go_wp2_with fail
    refine (P2.out _).mono ?_
    rintro e w2 ⟨rfl, h2⟩
    have b2 := b1.trans (h2.mono b1.size)
    clear b1 h2
    go_wp2_with fail
    refine (P3.out _).mono ?_
    rintro e w3 ⟨rfl, h3⟩
    have b3 := b2.trans (h3.mono b2.size)
    clear b2 h3
    go_wp2_with (first
      | (go_at_call 10; with_reducible refine (M.out _).mono ?_; rintro e w' ⟨rfl, hw'⟩; obtain rfl := hw'.symm)
      | (go_at_call 11; with_reducible refine (X.out _).mono ?_; rintro e w' ⟨rfl, hw'⟩; obtain rfl := hw'.symm))
    refine (C1.out _).mono ?_
    rintro e w4 ⟨rfl, h4⟩
    have b4 := b3.trans (h4.mono b3.size)
    clear b3 h4
    go_wp2_with (go_at_call 13; (first | with_reducible refine (SM.out _).mono ?_ | with_reducible refine (SX.out _).mono ?_ | with_reducible refine (SY.out _).mono ?_ | with_reducible refine (SN.out _).mono ?_); rintro e w' ⟨rfl, hw'⟩; obtain rfl := hw'.symm)
    refine (C2.out _).mono ?_
    rintro e w5 ⟨rfl, h5⟩
    have b5 := b4.trans (h5.mono b4.size)
    clear b4 h5
    go_wp2_with (go_at_call 13; (first | with_reducible refine (SM.out _).mono ?_ | with_reducible refine (SX.out _).mono ?_ | with_reducible refine (SY.out _).mono ?_ | with_reducible refine (SN.out _).mono ?_); rintro e w' ⟨rfl, hw'⟩; obtain rfl := hw'.symm)
    refine (C3.out _).mono ?_
    rintro e w6 ⟨rfl, h6⟩
    have b6 := b5.trans (h6.mono b5.size)
    clear b5 h6
    go_wp2_with (first
      | (go_at_call 13; (first | with_reducible refine (SM.out _).mono ?_ | with_reducible refine (SX.out _).mono ?_ | with_reducible refine (SY.out _).mono ?_ | with_reducible refine (SN.out _).mono ?_); rintro e w' ⟨rfl, hw'⟩; obtain rfl := hw'.symm)
      | (go_at_call 16; with_reducible refine (R.out _).mono ?_; rintro e w' ⟨rfl, hw'⟩; obtain rfl := hw'.symm)
      | (go_at_call 11; with_reducible refine (MX2.out hfm _).mono ?_; rintro e w' ⟨rfl, hw'⟩; obtain rfl := hw'.symm)
      | (go_at_call 10; with_reducible refine (XM2.out hfx _).mono ?_; rintro e w' ⟨rfl, hw'⟩; obtain rfl := hw'.symm))
    refine (dtwakes_any _).mono ?_
    rintro e w7 ⟨rfl, h7⟩
    have b7 := b6.trans (h7.mono b6.size)
    go_wp2
    go_returns
    exact ⟨rfl, b7⟩

theorem dTells_any (s : ByteArray) (hs : s.size ≤ 9223372036854775807) (w : World) :
    Calls Try.prog 3 #[.string s] w fun e w' => e = .returned (.bool true) ∧ Below w.heap.size w w' := by
  by_cases h : s.size ≤ 100
  · exact dTells_short s w h
  · exact dTells_long s w hs (by omega)
end Go.Proofs.Ytpfmmmedhkgheaa
