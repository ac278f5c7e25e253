/-
  Package date: its answers on texts.
-/
import Derived.Test.YtpfmmmedhkgheaaDtM
import Derived.Test.YtpfmmmedhkgheaaDtK
import Derived.Test.YtpfmmmedhkgheaaDtY
namespace Go.Proofs.Ytpfmmmedhkgheaa
open Go.RowKit

theorem datereadmt_any (s : ByteArray) (w : World) (hs : s.size ≤ 9223372036854775807) :
    Calls Try.prog 18 #[.string s] w fun e w' => (∃ y m d : Nat, e = .returned (.tuple #[dayS (decide (0 ≤ mtV s.data.toList)) y m d, .int .i64 (dcode (decide (0 ≤ mtV s.data.toList)))]) ∧
      (0 ≤ mtV s.data.toList → s.size = 6 ∧ 1980 ≤ y ∧ y ≤ 2079 ∧ (y < 2000 ↔ 80 ≤ dgV s.data.toList 0 2))) ∧ Below w.heap.size w w' := by
  cases hsh : shapeV s.data.toList formM with
  | false =>
    have hn := mt_unshaped hsh
    rw [decide_eq_false hn]
    exact (datereadmt_bad s w hs hsh).mono fun e w' ⟨he, hb⟩ => ⟨⟨0, 0, 0, he, fun h => absurd h hn⟩, hb⟩
  | true =>
    obtain ⟨hl, Y, M, D, hY, hM, hD, bY, bM, bD, hv⟩ := mt_shaped hsh
    have hf : ∃ y : Nat, (y : Int) = fullY Y := ⟨(fullY Y).toNat, by rw [fullY]; split <;> omega⟩
    obtain ⟨y, hy⟩ := hf
    rw [← hy] at hv
    have hb : decide (0 ≤ mtV s.data.toList) = isDay y M D := by rw [hv]; simp [dayV_nat]
    rw [hb]
    refine (datereadmt_good s w hs hsh Y M D y hY hM hD bY bM bD hy).mono fun e w' ⟨he, hbl⟩ => ⟨⟨y, M, D, he, fun h => ?_⟩, hbl⟩
    have hd := dayV_is (y := y) (m := M) (d := D) (by rw [← hb]; exact decide_eq_true h)
    refine ⟨by simpa using hl, hd.1, hd.2.1, ?_⟩
    rw [hY]
    rw [fullY] at hy
    split at hy <;> omega

theorem datecheckmt_any (s : ByteArray) (w : World) (hs : s.size ≤ 9223372036854775807) :
    Calls Try.prog 12 #[.string s] w fun e w' => e = .returned (.int .i64 (dcode (decide (0 ≤ mtV s.data.toList)))) ∧ Below w.heap.size w w' := by
  have H := hid (datereadmt_any s w hs)
  generalize mtV s.data.toList = x at *
  generalize decide (0 ≤ x) = b at *
  go_enter Try.func12, Try.ntmps12
  go_wp2_with fail
  refine H.out.mono ?_
  rintro e w1 ⟨⟨y, m, d, rfl, -⟩, h1⟩
  have hz := h1.size
  clear H
  cases b
  all_goals
    simp only [dayS, if_true, Bool.false_eq_true, if_false]
    go_wp2
    go_returns
    refine ⟨rfl, ?_⟩
    go_grown

theorem datecheckxml_any (s : ByteArray) (w : World) (hs : s.size ≤ 9223372036854775807) :
    Calls Try.prog 14 #[.string s] w fun e w' => e = .returned (.int .i64 (dcode (decide (0 ≤ xmlV s.data.toList)))) ∧ Below w.heap.size w w' := by
  have H := hid (datereadxml_any s w hs)
  generalize xmlV s.data.toList = x at *
  generalize decide (0 ≤ x) = b at *
  go_enter Try.func14, Try.ntmps14
  go_wp2_with fail
  refine H.out.mono ?_
  rintro e w1 ⟨⟨y, m, d, rfl, -⟩, h1⟩
  have hz := h1.size
  clear H
  cases b
  all_goals
    simp only [dayS, if_true, Bool.false_eq_true, if_false]
    go_wp2
    go_returns
    refine ⟨rfl, ?_⟩
    go_grown

set_option maxRecDepth 100000 in
set_option maxHeartbeats 4000000 in
theorem datetoxml_any (s : ByteArray) (w : World) (hs : s.size ≤ 9223372036854775807) :
    Calls Try.prog 7 #[.string s] w fun e w' => e = .returned (.tuple #[.string (oneOf (decide (0 ≤ mtV s.data.toList)) (toX s.data.toList)), .int .i64 (dcode (decide (0 ≤ mtV s.data.toList)))]) ∧ Below w.heap.size w w' := by
  have H := hid (datereadmt_any s w hs)
  by_cases hx : 0 ≤ mtV s.data.toList
  · rw [decide_eq_true hx] at H ⊢
    have h1 : ∀ P : Prop, (0 ≤ mtV s.data.toList → P) = P := fun P => by simp [hx]
    simp only [h1] at H
    clear h1
    have HT := hid (show ∀ (h6 : s.size = 6) (p : ByteArray), p.data.toList = (if 80 ≤ dgV s.data.toList 0 2 then [49, 57] else [50, 48]) → p ++ s.extract 0 2 ++ ⟨#[45]⟩ ++ s.extract 2 4 ++ ⟨#[45]⟩ ++ s.extract 4 6 = oneOf true (toX s.data.toList) from fun h6 p hp => by
      apply ib_str_eq
      have hl : s.data.toList.length = 6 := by simpa using h6
      simp only [oneOf, if_true, toX, ← hp, ByteArray.data_append, Array.toList_append, ext_lst]
      generalize p.data.toList = q
      obtain ⟨a, b, c, d, e, f, hs6⟩ := six hl
      rw [hs6]
      simp)
    generalize oneOf true (toX s.data.toList) = T at *
    generalize dgV s.data.toList 0 2 = g at *
    generalize mtV s.data.toList = x at *
    go_enter Try.func7, Try.ntmps7
    go_wp2_with fail
    refine H.out.mono ?_
    rintro e w1 ⟨⟨y, m, d, rfl, h6, y1, y2, y3⟩, h1⟩
    clear H
    have HU := hid (HT.out h6)
    have Y3 := hid y3
    clear HT y3
    simp only [dayS, dcode, if_true]
    have e2 : (s.extract 0 2).size = 2 := by simp [h6]
    have e4 : (s.extract 2 4).size = 2 := by simp [h6]
    have e6 : (s.extract 4 6).size = 2 := by simp [h6]
    by_cases hy : y < 2000
    · have hT := hid (HU.out ⟨#[49, 57]⟩ (by rw [if_pos (Y3.out.1 hy)]))
      go_wp2
      go_quiet (fail)
      go_wp2
      go_returns
      rw [dcode_yes]
      exact ⟨congrArg (fun q => Ending.returned (.tuple #[.string q, .int .i64 0])) hT.out, ib_below_drewN (h1.alloc h1.size _) _⟩
    · have hT := hid (HU.out ⟨#[50, 48]⟩ (by rw [if_neg (fun h => hy (Y3.out.2 h))]))
      go_wp2
      go_quiet (fail)
      go_wp2
      go_returns
      rw [dcode_yes]
      exact ⟨congrArg (fun q => Ending.returned (.tuple #[.string q, .int .i64 0])) hT.out, ib_below_drewN (h1.alloc h1.size _) _⟩
  · rw [decide_eq_false hx] at H ⊢
    generalize mtV s.data.toList = x at *
    generalize toX s.data.toList = T at *
    go_enter Try.func7, Try.ntmps7
    go_wp2_with fail
    refine H.out.mono ?_
    rintro e w1 ⟨⟨y, m, d, rfl, -⟩, h1⟩
    clear H
    have hz := h1.size
    simp only [dayS, dcode, Bool.false_eq_true, if_false]
    go_wp2
    go_returns
    refine ⟨rfl, ?_⟩
    go_grown

set_option maxRecDepth 100000 in
set_option maxHeartbeats 4000000 in
theorem datetomt_any (s : ByteArray) (w : World) (hs : s.size ≤ 9223372036854775807) :
    Calls Try.prog 8 #[.string s] w fun e w' => e = .returned (.tuple #[.string (oneOf (decide (0 ≤ xmlV s.data.toList)) (toM s.data.toList)), .int .i64 (dcode (decide (0 ≤ xmlV s.data.toList)))]) ∧ Below w.heap.size w w' := by
  have H := hid (datecheckxml_any s w hs)
  by_cases hx : 0 ≤ xmlV s.data.toList
  · rw [decide_eq_true hx] at H ⊢
    have h10 : s.size = 10 := by
      rw [xmlV] at hx
      split at hx
      · rename_i hc; simpa using hc.1
      · omega
    have HT := hid (show s.extract 2 4 ++ s.extract 5 7 ++ s.extract 8 10 = oneOf true (toM s.data.toList) from by
      apply ib_str_eq
      have hl : s.data.toList.length = 10 := by simpa using h10
      simp only [oneOf, if_true, toM, ByteArray.data_append, Array.toList_append, ext_lst]
      obtain ⟨a, b, c, d, e, f, g, i, j, k, hs6⟩ := ten hl
      rw [hs6]
      simp)
    generalize oneOf true (toM s.data.toList) = T at *
    generalize xmlV s.data.toList = x at *
    have e2 : (s.extract 2 4).size = 2 := by simp [h10]
    have e4 : (s.extract 5 7).size = 2 := by simp [h10]
    have e6 : (s.extract 8 10).size = 2 := by simp [h10]
    rw [dcode_yes] at H ⊢
    go_enter Try.func8, Try.ntmps8
    go_wp2_with fail
    refine H.out.mono ?_
    rintro e w1 ⟨rfl, h1⟩
    clear H
    go_wp2
    go_quiet (fail)
    go_wp2
    go_returns
    exact ⟨congrArg (fun q => Ending.returned (.tuple #[.string q, .int .i64 0])) HT.out, ib_below_drewN h1 _⟩
  · rw [decide_eq_false hx] at H ⊢
    generalize xmlV s.data.toList = x at *
    generalize toM s.data.toList = T at *
    rw [dcode_no] at H ⊢
    go_enter Try.func8, Try.ntmps8
    go_wp2_with fail
    refine H.out.mono ?_
    rintro e w1 ⟨rfl, h1⟩
    clear H
    go_wp2
    go_returns
    exact ⟨rfl, h1⟩
end Go.Proofs.Ytpfmmmedhkgheaa
