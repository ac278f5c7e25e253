/-
  The document's own answers, first part: Power, Good, Least.
-/
import Derived.Test.YtjpndajbkemnlaaDecD
namespace Go.Proofs.Ytjpndajbkemnlaa
open Go.RowKit

set_option maxHeartbeats 400000 in
theorem refPower_any (k : Nat) (w : World) (hk : k ≤ 18) :
    Calls Try.prog 38 #[.int .i64 k] w fun e w' => e = .returned (.int .i64 (p10 k)) ∧ w' = w := by
  go_enter Try.func38, Try.ntmps38
  go_wp2
  go_loop [3, 4] (fun p i => ∃ j : Nat, j ≤ k ∧ i = .int .i64 j ∧ p = .int .i64 (p10 j)) (fun _ i => k - (intOf i).toNat)
  case atStart => exact ⟨0, Nat.zero_le _, rfl, rfl⟩
  case round =>
    obtain ⟨j, hj, rfl, rfl⟩ := hrel
    by_cases hlt : j < k
    · have h1 := p10_pos j
      have h2 := p10_17 j (by omega)
      have h3 : Hid (10 * p10 j = p10 (j + 1)) := by show _ = p10 j * 10; omega
      go_wp2
      go_round
      case rel => exact ⟨j + 1, by omega, by go_num, by rw [h3.out]⟩
      case measure => simp [intOf]; omega
    · go_wp2
      go_ret
      obtain rfl : j = k := by omega
      exact ⟨rfl, rfl⟩

theorem refPower18 (w : World) : Calls Try.prog 38 #[.int .i64 18] w fun e w' => e = .returned (.int .i64 1000000000000000000) ∧ w' = w :=
  refPower_any 18 w (Nat.le_refl _)

set_option maxHeartbeats 1000000 in
theorem refGood_any (g : Bool) (c s : Int) (w : World) :
    Calls Try.prog 25 #[.agg #[.bool g, .int .i64 c, .int .i64 s]] w fun e w' => e = .returned (.bool (goodB g c s)) ∧ Below w.heap.size w w' := by
  by_cases h0 : 0 ≤ c
  · by_cases h1 : c < 1000000000000000000
    · by_cases h2 : 0 ≤ s
      · by_cases h3 : s ≤ 5
        · cases g
          · have hg := hid (show goodB false c s = true by simp [goodB, *])
            go_enter Try.func25, Try.ntmps25
            go_wp2_with fail
            go_quiet ((go_at_call 38; exact Calls.quiet_of_same (refPower18 _)))
            go_wp2
            go_ret
            exact ⟨by rw [hg.out]; rfl, below_drewN ((Below.refl _ _).alloc (Nat.le_refl _) _) _⟩
          · by_cases h4 : c = 0
            · have hg := hid (show goodB true c s = false by simp [goodB, *])
              have hd : (c != 0) = false := by simp [h4]
              clear h4
              go_enter Try.func25, Try.ntmps25
              go_wp2_with fail
              go_quiet ((go_at_call 38; exact Calls.quiet_of_same (refPower18 _)))
              go_wp2
              go_ret
              exact ⟨by rw [hg.out]; rfl, below_drewN ((Below.refl _ _).alloc (Nat.le_refl _) _) _⟩
            · have hg := hid (show goodB true c s = true by simp [goodB, *])
              have hd : (c != 0) = true := by simp [h4]
              clear h4
              go_enter Try.func25, Try.ntmps25
              go_wp2_with fail
              go_quiet ((go_at_call 38; exact Calls.quiet_of_same (refPower18 _)))
              go_wp2
              go_ret
              exact ⟨by rw [hg.out]; rfl, below_drewN ((Below.refl _ _).alloc (Nat.le_refl _) _) _⟩
        · have hg := hid (show goodB g c s = false by simp [goodB, *])
          have hd : decide (s ≤ 5) = false := by simpa using h3
          clear h3
          go_enter Try.func25, Try.ntmps25
          go_wp2_with fail
          go_quiet ((go_at_call 38; exact Calls.quiet_of_same (refPower18 _)))
          go_wp2
          go_ret
          exact ⟨by rw [hg.out]; rfl, below_drewN ((Below.refl _ _).alloc (Nat.le_refl _) _) _⟩
      · have hg := hid (show goodB g c s = false by simp [goodB, *])
        have hd : decide (0 ≤ s) = false := by simpa using h2
        clear h2
        go_enter Try.func25, Try.ntmps25
        go_wp2_with fail
        go_quiet ((go_at_call 38; exact Calls.quiet_of_same (refPower18 _)))
        go_wp2
        go_ret
        exact ⟨by rw [hg.out]; rfl, below_drewN ((Below.refl _ _).alloc (Nat.le_refl _) _) _⟩
    · have hg := hid (show goodB g c s = false by simp [goodB, *])
      have hd : decide (c < 1000000000000000000) = false := by simpa using h1
      clear h1
      go_enter Try.func25, Try.ntmps25
      go_wp2_with fail
      go_quiet ((go_at_call 38; exact Calls.quiet_of_same (refPower18 _)))
      go_wp2
      go_ret
      exact ⟨by rw [hg.out]; rfl, below_drewN ((Below.refl _ _).alloc (Nat.le_refl _) _) _⟩
  · have hg := hid (show goodB g c s = false by simp [goodB, *])
    have hd : decide (0 ≤ c) = false := by simpa using h0
    clear h0
    go_enter Try.func25, Try.ntmps25
    go_wp2_with fail
    go_quiet ((go_at_call 38; exact Calls.quiet_of_same (refPower18 _)))
    go_wp2
    go_ret
    exact ⟨by rw [hg.out]; rfl, below_drewN ((Below.refl _ _).alloc (Nat.le_refl _) _) _⟩

set_option maxHeartbeats 400000 in
theorem refLeast_bad (g : Bool) (c s : Int) (w : World) (ha : goodB g c s = false) :
    Calls Try.prog 26 #[.agg #[.bool g, .int .i64 c, .int .i64 s]] w fun e w' => e = .returned (.agg #[.bool g, .int .i64 c, .int .i64 s]) ∧ Below w.heap.size w w' := by
  have HA := hid ha
  clear ha
  go_enter Try.func26, Try.ntmps26
  go_wp2_with fail
  go_loopw [] (fun wr => wr = ((w.alloc (.cells #[.bool g, .int .i64 c, .int .i64 s] 23)).alloc (.cells #[.bool false, .int .i64 0, .int .i64 0] 23))) (fun _ => 0)
  case atStart => rfl
  case round =>
    subst hrel
    go_wp2_with fail
    with_reducible refine (refGood_any _ _ _ _).mono ?_
    rintro e w1 ⟨rfl, h1⟩
    rw [HA.out]
    have b1 : Below w.heap.size w w1 := (below2 w _ _).trans (h1.mono (by simp; omega))
    have hz : w.heap.size + 1 < w1.heap.size := by have := h1.size; simp at this; omega
    obtain ⟨hc, hf⟩ := bcell h1
    go_wp2
    refine bodyPost_ret (v := .agg #[.bool g, .int .i64 c, .int .i64 s]) (by simp [results, Try.results26, go_sem, hc]) rfl ⟨rfl, ?_⟩
    go_grown

/-- What the rest of a round tells: on, or the end. -/
theorem lst_rest {k : Nat} {d : Int} (hk : k = 0 ∨ ¬ d % 10 = 0) : lst k d = (d, k) := by
  rcases hk with rfl | h
  · rfl
  · cases k with
    | zero => rfl
    | succ k => exact lst_stop (by omega) h

theorem good_less {g : Bool} {d : Int} {j : Nat} (h : goodB g d ((j + 1 : Nat) : Int) = true) (hd : d % 10 = 0) : goodB g (d / 10) j = true := by
  obtain ⟨h0, h1, h2, h3, h4⟩ := goodB_parts h
  unfold goodB
  simp only [Bool.and_eq_true, decide_eq_true_eq, Bool.or_eq_true, Bool.not_eq_true', beq_eq_false_iff_ne, ne_eq]
  refine ⟨by omega, by omega, by omega, by omega, ?_⟩
  by_cases hz : d = 0
  · exact .inr (h4 hz)
  · exact .inl (by omega)

def RefLeastInv (w : World) (g : Bool) (c : Int) (s : Nat) (wr : World) : Prop :=
  ∃ (k : Nat) (d : Int), BoxNum wr w.heap.size g d k ∧ BoxNum wr (w.heap.size + 1) false 0 0 ∧ Unfrozen wr w.heap.size ∧ Unfrozen wr (w.heap.size + 1) ∧
    goodB g d k = true ∧ lst k d = lst s c ∧ Below w.heap.size w wr

set_option maxHeartbeats 800000 in
theorem refLeast_good (g : Bool) (c : Int) (s : Nat) (w : World) (ha : goodB g c s = true) :
    Calls Try.prog 26 #[.agg #[.bool g, .int .i64 c, .int .i64 s]] w fun e w' => e = .returned (.agg #[.bool g, .int .i64 (lst s c).1, .int .i64 (lst s c).2]) ∧ Below w.heap.size w w' := by
  have HL : Hid (RefLeastInv w g c s ((w.alloc (.cells #[.bool g, .int .i64 c, .int .i64 s] 23)).alloc (.cells #[.bool false, .int .i64 0, .int .i64 0] 23))) := by
    have R1 := BoxNum.new (w.alloc (.cells #[.bool g, .int .i64 c, .int .i64 s] 23)) false 0 0 23
    rw [World.size_alloc] at R1
    exact ⟨s, c, (BoxNum.new w g c s 23).alloc _, R1, fun i => by simp [go_sem], fun i => by simp [go_sem], ha, rfl, below2 _ _ _⟩
  clear ha
  go_enter Try.func26, Try.ntmps26
  go_wp2_with fail
  go_loopw [] (fun wr => RefLeastInv w g c s wr) (fun wr => (intOf ((wr.cell? ⟨w.heap.size, 2, none⟩).getD undef)).toNat)
  case atStart => exact HL.out
  case round =>
    clear HL
    obtain ⟨k, d, hA, hR, hF, hG, hgd, he, hb⟩ := hrel
    have KA := hid hA
    have KR := hid hR
    have KF := hid hF
    have KG := hid hG
    have KE := hid he
    have GD := hid hgd
    obtain ⟨d0, d1, _, k5, _⟩ := goodB_parts hgd
    obtain ⟨hz1, a0, a1, a2⟩ := hA
    clear hR hF hG he hgd
    go_wp2_with fail
    with_reducible refine (refGood_any _ _ _ _).mono ?_
    rintro e w1 ⟨rfl, h1⟩
    rw [GD.out]
    have hb1 := hb.trans (h1.mono hb.size)
    have JA := hid (KA.out.below h1)
    have JR := hid (KR.out.below h1)
    have JF := hid (unfrozen_of h1 hz1 KF.out)
    have JG := hid (unfrozen_of h1 KR.out.1 KG.out)
    have HME : Hid ((w1.cell? ⟨w.heap.size, 2, none⟩) = wr.cell? ⟨w.heap.size, 2, none⟩) := h1.cell (p := ⟨w.heap.size, 2, none⟩) hz1
    have HMF : Hid (wr.cell? ⟨w.heap.size, 2, none⟩ = some (.int .i64 k)) := a2
    clear h1 a0 a1 a2 hz1
    obtain ⟨hz1, a0, a1, a2⟩ := JA.out
    obtain ⟨hz2, x0, x1, x2⟩ := JR.out
    have f1 := JF.out 1
    have f2 := JF.out 2
    have e0 := JG.out 0
    have e1 := JG.out 1
    have e2 := JG.out 2
    by_cases hk : k = 0
    · subst hk
      go_wp2
      refine bodyPost_ret (v := .agg #[.bool g, .int .i64 d, .int .i64 0]) (by simp [results, Try.results26, go_sem, *]) rfl ⟨?_, ?_⟩
      · rw [← KE.out]; rfl
      · go_grown
    · by_cases hd : d % 10 = 0
      · go_wp2
        have hA2 : BoxNum ((w1.setCell ⟨w.heap.size, 1, none⟩ (.int .i64 (d / 10))).setCell ⟨w.heap.size, 2, none⟩ (.int .i64 ((k : Int) - 1))) w.heap.size g (d / 10) ((k : Int) - 1) := JA.out.put12 _ _
        obtain ⟨j, rfl⟩ : ∃ j, k = j + 1 := ⟨k - 1, by omega⟩
        have hj : ((j + 1 : Nat) : Int) - 1 = (j : Int) := by omega
        refine ⟨⟨j, d / 10, ?_, (JR.out.far (by dsimp only; omega) _).far (by dsimp only; omega) _, (JF.out.setCell _ _).setCell _ _, (JG.out.setCell _ _).setCell _ _, good_less GD.out hd, ?_, ?_⟩, ?_⟩
        · rw [hj] at hA2
          rw [hj]
          exact hA2
        · rw [← lst_go hd]
          exact KE.out
        · go_grown
        · rw [hA2.2.2.2, HMF.out]
          simp [intOf]
      · go_wp2
        refine bodyPost_ret (v := .agg #[.bool g, .int .i64 d, .int .i64 k]) (by simp [results, Try.results26, go_sem, *]) rfl ⟨?_, ?_⟩
        · rw [← KE.out, lst_stop (by omega) hd]
        · go_grown
end Go.Proofs.Ytjpndajbkemnlaa
