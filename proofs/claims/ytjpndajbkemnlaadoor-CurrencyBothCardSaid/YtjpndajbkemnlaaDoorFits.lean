/-
  Fits, and the function that fitting hands back.
-/
import Derived.Test.YtjpndajbkemnlaaDoorLeast
import Derived.Test.YtjpndajbkemnlaaDoorCurA
namespace Go.Proofs.YtjpndajbkemnlaaDoor
open Go.RowKit Go.Shelf

/-- What Fits tells. -/
def fitsV (g : Bool) (c s : Int) (l : List UInt8) : Int :=
  if goodB g c s && !g then (if (digV l).2 && decide ((leastV g c s).2 ≤ (digV l).1) then 0 else 12) else 1

set_option maxHeartbeats 1000000 in
theorem fits_bad (g : Bool) (c s : Int) (t : ByteArray) (w : World) (ha : goodB g c s = false) :
    Calls Tryd.prog 9 #[.agg #[.bool g, .int .i64 c, .int .i64 s], .string t] w fun e w' => e = .returned (.int .i64 1) ∧ Below w.heap.size w w' := by
  have HA := hid ha
  clear ha
  go_enter Tryd.func9, Tryd.ntmps9
  go_wp2_with fail
  with_reducible refine (good_any _ _ _ _).mono ?_
  rintro e w1 ⟨rfl, h1⟩
  rw [HA.out]
  have b1 : Below w.heap.size w w1 := ((Below.refl _ w).alloc (Nat.le_refl _) _).trans (h1.mono (by simp))
  obtain ⟨hz, a0, a1, a2⟩ := (BoxNum.new w g c s 24).below h1
  go_wp2
  go_returns
  exact ⟨rfl, b1⟩

set_option maxHeartbeats 1000000 in
theorem fits_neg (c s : Int) (t : ByteArray) (w : World) (ha : goodB true c s = true) :
    Calls Tryd.prog 9 #[.agg #[.bool true, .int .i64 c, .int .i64 s], .string t] w fun e w' => e = .returned (.int .i64 1) ∧ Below w.heap.size w w' := by
  have HA := hid ha
  clear ha
  go_enter Tryd.func9, Tryd.ntmps9
  go_wp2_with fail
  with_reducible refine (good_any _ _ _ _).mono ?_
  rintro e w1 ⟨rfl, h1⟩
  rw [HA.out]
  have b1 : Below w.heap.size w w1 := ((Below.refl _ w).alloc (Nat.le_refl _) _).trans (h1.mono (by simp))
  obtain ⟨hz, a0, a1, a2⟩ := (BoxNum.new w true c s 24).below h1
  go_wp2
  go_returns
  exact ⟨rfl, b1⟩

set_option maxHeartbeats 1000000 in
theorem fits_none (c s : Int) (t : ByteArray) (w : World) (ha : goodB false c s = true) (hs : t.size ≤ 9223372036854775807) (d : Int) (hd : digV t.data.toList = (d, false)) :
    Calls Tryd.prog 9 #[.agg #[.bool false, .int .i64 c, .int .i64 s], .string t] w fun e w' => e = .returned (.int .i64 12) ∧ Below w.heap.size w w' := by
  have HA := hid ha
  have HD := hid hd
  clear ha hd
  go_enter Tryd.func9, Tryd.ntmps9
  go_wp2_with fail
  with_reducible refine (good_any _ _ _ _).mono ?_
  rintro e w1 ⟨rfl, h1⟩
  rw [HA.out]
  have b1 : Below w.heap.size w w1 := ((Below.refl _ w).alloc (Nat.le_refl _) _).trans (h1.mono (by simp))
  have B1 := hid ((BoxNum.new w false c s 24).below h1)
  obtain ⟨hz, a0, a1, a2⟩ := B1.out
  go_wp2_with fail
  with_reducible refine (digits_of t _ hs).mono ?_
  rintro e w2 ⟨rfl, h2⟩
  rw [HD.out]
  have b2 : Below w.heap.size w w2 := b1.trans (h2.mono (by omega))
  clear a0 a1 a2 hz
  obtain ⟨hz, a0, a1, a2⟩ := B1.out.below h2
  go_wp2
  go_returns
  exact ⟨rfl, b2⟩

theorem field2 (x k : Int) (w : World) : (Instr.field 24 (.agg #[.bool false, .int .i64 x, .int .i64 k]) 2).run Tryd.prog w = .ok (.int .i64 k) w := by kernel_rfl

set_option maxHeartbeats 1000000 in
theorem fits_some (c s : Int) (t : ByteArray) (w : World) (ha : goodB false c s = true) (hs : t.size ≤ 9223372036854775807) (d : Int) (hd : digV t.data.toList = (d, true)) (x k : Int) (hk : leastV false c s = (x, k)) :
    Calls Tryd.prog 9 #[.agg #[.bool false, .int .i64 c, .int .i64 s], .string t] w fun e w' => e = .returned (.int .i64 (if k ≤ d then 0 else 12)) ∧ Below w.heap.size w w' := by
  have HA := hid ha
  have HD := hid hd
  have HK := hid hk
  clear ha hd hk
  have hfd := field2 x k
  have walk : ∀ r : Int, (¬ d < k ∧ r = 0 ∨ d < k ∧ r = 12) → Calls Tryd.prog 9 #[.agg #[.bool false, .int .i64 c, .int .i64 s], .string t] w fun e w' => e = .returned (.int .i64 r) ∧ Below w.heap.size w w' := by
    rintro r (⟨hk, rfl⟩ | ⟨hk, rfl⟩)
    all_goals
      go_enter Tryd.func9, Tryd.ntmps9
      go_wp2_with fail
      with_reducible refine (good_any _ _ _ _).mono ?_
      rintro e w1 ⟨rfl, h1⟩
      rw [HA.out]
      have b1 : Below w.heap.size w w1 := ((Below.refl _ w).alloc (Nat.le_refl _) _).trans (h1.mono (by simp))
      have B1 := hid ((BoxNum.new w false c s 24).below h1)
      obtain ⟨hz, a0, a1, a2⟩ := B1.out
      go_wp2_with fail
      with_reducible refine (digits_of t _ hs).mono ?_
      rintro e w2 ⟨rfl, h2⟩
      rw [HD.out]
      have b2 : Below w.heap.size w w2 := b1.trans (h2.mono (by omega))
      clear a0 a1 a2 hz
      obtain ⟨hz, a0, a1, a2⟩ := B1.out.below h2
      go_wp2_with fail
      with_reducible refine (least_any _ _ _ _).mono ?_
      rintro e w3 ⟨rfl, h3⟩
      rw [HK.out]
      have b3 : Below w.heap.size w w3 := b2.trans (h3.mono (by omega))
      go_wp2
      go_returns
      exact ⟨rfl, b3⟩
  by_cases hk : k ≤ d
  · rw [if_pos hk]
    exact walk 0 (.inl ⟨by omega, rfl⟩)
  · rw [if_neg hk]
    exact walk 12 (.inr ⟨by omega, rfl⟩)

theorem fits_any (g : Bool) (c s : Int) (t : ByteArray) (w : World) (hs : t.size ≤ 9223372036854775807) :
    Calls Tryd.prog 9 #[.agg #[.bool g, .int .i64 c, .int .i64 s], .string t] w fun e w' => e = .returned (.int .i64 (fitsV g c s t.data.toList)) ∧ Below w.heap.size w w' := by
  cases ha : goodB g c s
  · rw [fitsV, ha]
    exact fits_bad g c s t w ha
  · cases g
    · rw [fitsV, ha]
      obtain ⟨x, k⟩ : ∃ p, leastV false c s = p := ⟨_, rfl⟩
      cases hd : digV t.data.toList with
      | mk d is =>
        cases is
        · exact fits_none c s t w ha hs d hd
        · cases hk : leastV false c s with
          | mk x k =>
            have := fits_some c s t w ha hs d hd x k hk
            by_cases h : k ≤ d
            · simpa [h] using this
            · simpa [h] using this
    · rw [fitsV, ha]
      exact fits_neg c s t w ha
end Go.Proofs.YtjpndajbkemnlaaDoor
