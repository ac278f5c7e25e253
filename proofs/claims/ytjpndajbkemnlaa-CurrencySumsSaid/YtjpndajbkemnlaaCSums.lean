/-
  The walk of CurrencySums.
-/
import Derived.Test.YtjpndajbkemnlaaCurW
import Derived.Test.YtjpndajbkemnlaaSumM
namespace Go.Proofs.Ytjpndajbkemnlaa
open Go.RowKit Go.Shelf

set_option maxHeartbeats 2000000 in
theorem callSums_long (g g' : Bool) (c c' k k' : Int) (t u : ByteArray) (w : World) (ht : t.size ≤ 9223372036854775807) (hu : u.size ≤ 9223372036854775807) (hl : 60 < t.size ∨ t.size ≤ 60 ∧ 60 < u.size) :
    Calls Try.prog 5 #[agg g c k, agg g' c' k', .string t, .string u] w fun e w' => e = .returned (.bool true) ∧ Below w.heap.size w w' := by
  have N0 := hid (((Now.start w).box g c k 23).box g' c' k' 23)
  rcases hl with hl | ⟨hl, hl2⟩
  all_goals
    go_enter Try.func5, Try.ntmps5
    go_wp2_with (go_at_call 6; with_reducible refine (curwakes_any _).mono ?_; rintro e w1 ⟨rfl, h1⟩)
    go_returns
    exact ⟨rfl, (N0.out.below h1).1⟩

set_option maxHeartbeats 2000000 in
theorem callSums_first (g g' : Bool) (c c' k k' : Int) (t u : ByteArray) (w : World) (ht : t.size ≤ 60) (hu : u.size ≤ 60) (f : Int) (hf : fitsV g c k t.data.toList = f) (hf0 : ¬ f = 0) :
    Calls Try.prog 5 #[agg g c k, agg g' c' k', .string t, .string u] w fun e w' => e = .returned (.bool true) ∧ Below w.heap.size w w' := by
  have HF := hid hf
  clear hf
  have N0 := hid (((Now.start w).box g c k 23).box g' c' k' 23)
  simp only [World.size_alloc] at N0
  go_enter Try.func5, Try.ntmps5
  obtain ⟨bb, ⟨z1, x1, y1, t1⟩, ⟨z2, x2, y2, t2⟩, _⟩ := N0.out
  go_wp2_with fail
  with_reducible refine (fits_any _ _ _ t _ (by omega)).mono ?_
  rintro e w1 ⟨rfl, h1⟩
  rw [HF.out]
  have N1 := hid (N0.out.below h1)
  clear bb z1 x1 y1 t1 z2 x2 y2 t2 N0 h1
  go_wp2_with fail
  with_reducible refine (curwakes_any _).mono ?_
  rintro e w2 ⟨rfl, h2⟩
  go_wp2
  go_returns
  exact ⟨rfl, (N1.out.below h2).1⟩

set_option maxHeartbeats 2000000 in
theorem callSums_second (g g' : Bool) (c c' k k' : Int) (t u : ByteArray) (w : World) (ht : t.size ≤ 60) (hu : u.size ≤ 60) (f : Int) (hg : fitsV g c k t.data.toList = 0) (hf : fitsV g' c' k' t.data.toList = f) (hf0 : ¬ f = 0) :
    Calls Try.prog 5 #[agg g c k, agg g' c' k', .string t, .string u] w fun e w' => e = .returned (.bool true) ∧ Below w.heap.size w w' := by
  have HF := hid hf
  have HG := hid hg
  clear hf hg
  have N0 := hid (((Now.start w).box g c k 23).box g' c' k' 23)
  simp only [World.size_alloc] at N0
  go_enter Try.func5, Try.ntmps5
  obtain ⟨bb, ⟨z1, x1, y1, t1⟩, ⟨z2, x2, y2, t2⟩, _⟩ := N0.out
  go_wp2_with fail
  with_reducible refine (fits_any _ _ _ t _ (by omega)).mono ?_
  rintro e w1 ⟨rfl, h1⟩
  rw [HG.out]
  have N1 := hid (N0.out.below h1)
  clear bb z1 x1 y1 t1 z2 x2 y2 t2 N0 h1
  obtain ⟨bb, ⟨z1, x1, y1, t1⟩, ⟨z2, x2, y2, t2⟩, _⟩ := N1.out
  go_wp2_with fail
  with_reducible refine (fits_any _ _ _ t _ (by omega)).mono ?_
  rintro e w2 ⟨rfl, h2⟩
  rw [HF.out]
  have hfb : (f != 0) = true := by simp [hf0]
  have N2 := hid (N1.out.below h2)
  clear bb z1 x1 y1 t1 z2 x2 y2 t2 N1 h2
  go_wp2_with fail
  with_reducible refine (curwakes_any _).mono ?_
  rintro e w3 ⟨rfl, h3⟩
  go_wp2
  go_returns
  exact ⟨rfl, (N2.out.below h3).1⟩

set_option maxRecDepth 100000 in
set_option maxHeartbeats 8000000 in
/-- The sum, whether it is told or not. -/
theorem callSums_main (g g' : Bool) (c c' k k' : Int) (t u : ByteArray) (w : World) (ht : t.size ≤ 60) (hu : u.size ≤ 60) (hg : fitsV g c k t.data.toList = 0) (hg' : fitsV g' c' k' t.data.toList = 0)
    (r1 : Bool) (r2 r3 r4 : Int) (hr : addN g c k g' c' k' = (r1, r2, r3, r4)) (hr4 : r4 = 0 ∧ fitsV r1 r2 r3 t.data.toList = 0 ∨ r4 = 11)
    (d f : Int) (also : Bool) (hd : digV t.data.toList = (d, true)) (hf : digV u.data.toList = (f, also)) (hm : also = true → d ≤ f → fitsV g c k u.data.toList = 0) (l1 l2 : Int) (hl : leastV g c k = (l1, l2)) (hl0 : fitsV g l1 l2 t.data.toList = 0) :
    Calls Try.prog 5 #[agg g c k, agg g' c' k', .string t, .string u] w fun e w' => e = .returned (.bool true) ∧ Below w.heap.size w w' := by
  have HG := hid hg
  have HG2 := hid hg'
  have HR := hid hr
  have HR4 := hid hr4
  have HD := hid hd
  have HE := hid hf
  have HM := hid hm
  have HL := hid hl
  have HL0 := hid hl0
  clear hg hg' hr hr4 hd hf hm hl hl0
  have N0 := hid (((Now.start w).box g c k 23).box g' c' k' 23)
  simp only [World.size_alloc] at N0
  go_enter Try.func5, Try.ntmps5
  obtain ⟨bb, ⟨z1, x1, y1, t1⟩, ⟨z2, x2, y2, t2⟩, _⟩ := N0.out
  go_wp2_with fail
  with_reducible refine (fits_any _ _ _ t _ (by omega)).mono ?_
  rintro e w1 ⟨rfl, h1⟩
  rw [HG.out]
  have N1 := hid (N0.out.below h1)
  clear bb z1 x1 y1 t1 z2 x2 y2 t2 N0 h1
  obtain ⟨bb, ⟨z1, x1, y1, t1⟩, ⟨z2, x2, y2, t2⟩, _⟩ := N1.out
  go_wp2_with fail
  with_reducible refine (fits_any _ _ _ t _ (by omega)).mono ?_
  rintro e w2 ⟨rfl, h2⟩
  rw [HG2.out]
  have N2 := hid (N1.out.below h2)
  clear bb z1 x1 y1 t1 z2 x2 y2 t2 N1 h2
  obtain ⟨bb, ⟨z1, x1, y1, t1⟩, ⟨z2, x2, y2, t2⟩, _⟩ := N2.out
  go_wp2_with fail
  with_reducible refine (add_any _ _ _ _ _ _ _).mono ?_
  rintro e w3 ⟨rfl, h3⟩
  rw [HR.out]
  have N3 := hid ((N2.out.below h3).box r1 r2 r3 23)
  clear bb z1 x1 y1 t1 z2 x2 y2 t2 N2 h3
  rcases HR4.out with ⟨rfl, hs⟩ | rfl
  · have HS := hid hs
    clear hs
    obtain ⟨bb, ⟨z0, x0, y0, t0⟩, ⟨z1, x1, y1, t1⟩, ⟨z2, x2, y2, t2⟩, _⟩ := N3.out
    go_wp2_with fail
    with_reducible refine (fits_any _ _ _ t _ (by omega)).mono ?_
    rintro e w4 ⟨rfl, h4⟩
    rw [HS.out]
    have N4 := hid (N3.out.below h4)
    clear bb z0 x0 y0 t0 z1 x1 y1 t1 z2 x2 y2 t2 N3 h4
    go_wp2_with fail
    with_reducible refine (digits_of t _ (by omega)).mono ?_
    rintro e w5 ⟨rfl, h5⟩
    rw [HD.out]
    have N5 := hid (N4.out.below h5)
    clear N4 h5
    go_wp2_with fail
    with_reducible refine (digits_of u _ (by omega)).mono ?_
    rintro e w6 ⟨rfl, h6⟩
    rw [HE.out]
    have N6 := hid (N5.out.below h6)
    clear N5 h6
    cases also
    · obtain ⟨bb, ⟨z0, x0, y0, t0⟩, ⟨z1, x1, y1, t1⟩, ⟨z2, x2, y2, t2⟩, _⟩ := N6.out
      go_wp2_with fail
      with_reducible refine (least_any _ _ _ _).mono ?_
      rintro e w8 ⟨rfl, h8⟩
      rw [HL.out]
      have N8 := hid (N6.out.below h8)
      clear bb z0 x0 y0 t0 z1 x1 y1 t1 z2 x2 y2 t2 N6 h8
      go_wp2_with fail
      with_reducible refine (fits_any _ _ _ t _ (by omega)).mono ?_
      rintro e w9 ⟨rfl, h9⟩
      rw [HL0.out]
      have N9 := hid (N8.out.below h9)
      clear N8 h9
      go_wp2_with fail
      with_reducible refine (curwakes_any _).mono ?_
      rintro e w10 ⟨rfl, h10⟩
      go_wp2
      go_returns
      exact ⟨rfl, (N9.out.below h10).1⟩
    · by_cases hlt : f < d
      · obtain ⟨bb, ⟨z0, x0, y0, t0⟩, ⟨z1, x1, y1, t1⟩, ⟨z2, x2, y2, t2⟩, _⟩ := N6.out
        go_wp2_with fail
        with_reducible refine (least_any _ _ _ _).mono ?_
        rintro e w8 ⟨rfl, h8⟩
        rw [HL.out]
        have N8 := hid (N6.out.below h8)
        clear bb z0 x0 y0 t0 z1 x1 y1 t1 z2 x2 y2 t2 N6 h8
        go_wp2_with fail
        with_reducible refine (fits_any _ _ _ t _ (by omega)).mono ?_
        rintro e w9 ⟨rfl, h9⟩
        rw [HL0.out]
        have N9 := hid (N8.out.below h9)
        clear N8 h9
        go_wp2_with fail
        with_reducible refine (curwakes_any _).mono ?_
        rintro e w10 ⟨rfl, h10⟩
        go_wp2
        go_returns
        exact ⟨rfl, (N9.out.below h10).1⟩
      · have hM := hid (HM.out rfl (by omega))
        obtain ⟨bb, ⟨z0, x0, y0, t0⟩, ⟨z1, x1, y1, t1⟩, ⟨z2, x2, y2, t2⟩, _⟩ := N6.out
        go_wp2_with fail
        with_reducible refine (fits_any _ _ _ u _ (by omega)).mono ?_
        rintro e w7 ⟨rfl, h7⟩
        rw [hM.out]
        have N7 := hid (N6.out.below h7)
        clear bb z0 x0 y0 t0 z1 x1 y1 t1 z2 x2 y2 t2 N6 h7
        obtain ⟨bb, ⟨z0, x0, y0, t0⟩, ⟨z1, x1, y1, t1⟩, ⟨z2, x2, y2, t2⟩, _⟩ := N7.out
        go_wp2_with fail
        with_reducible refine (least_any _ _ _ _).mono ?_
        rintro e w8 ⟨rfl, h8⟩
        rw [HL.out]
        have N8 := hid (N7.out.below h8)
        clear bb z0 x0 y0 t0 z1 x1 y1 t1 z2 x2 y2 t2 N7 h8
        go_wp2_with fail
        with_reducible refine (fits_any _ _ _ t _ (by omega)).mono ?_
        rintro e w9 ⟨rfl, h9⟩
        rw [HL0.out]
        have N9 := hid (N8.out.below h9)
        clear N8 h9
        go_wp2_with fail
        with_reducible refine (curwakes_any _).mono ?_
        rintro e w10 ⟨rfl, h10⟩
        go_wp2
        go_returns
        exact ⟨rfl, (N9.out.below h10).1⟩
  · go_wp2_with fail
    with_reducible refine (digits_of t _ (by omega)).mono ?_
    rintro e w5 ⟨rfl, h5⟩
    rw [HD.out]
    have N5 := hid (N3.out.below h5)
    clear N3 h5
    go_wp2_with fail
    with_reducible refine (digits_of u _ (by omega)).mono ?_
    rintro e w6 ⟨rfl, h6⟩
    rw [HE.out]
    have N6 := hid (N5.out.below h6)
    clear N5 h6
    cases also
    · obtain ⟨bb, ⟨z0, x0, y0, t0⟩, ⟨z1, x1, y1, t1⟩, ⟨z2, x2, y2, t2⟩, _⟩ := N6.out
      go_wp2_with fail
      with_reducible refine (least_any _ _ _ _).mono ?_
      rintro e w8 ⟨rfl, h8⟩
      rw [HL.out]
      have N8 := hid (N6.out.below h8)
      clear bb z0 x0 y0 t0 z1 x1 y1 t1 z2 x2 y2 t2 N6 h8
      go_wp2_with fail
      with_reducible refine (fits_any _ _ _ t _ (by omega)).mono ?_
      rintro e w9 ⟨rfl, h9⟩
      rw [HL0.out]
      have N9 := hid (N8.out.below h9)
      clear N8 h9
      go_wp2_with fail
      with_reducible refine (curwakes_any _).mono ?_
      rintro e w10 ⟨rfl, h10⟩
      go_wp2
      go_returns
      exact ⟨rfl, (N9.out.below h10).1⟩
    · by_cases hlt : f < d
      · obtain ⟨bb, ⟨z0, x0, y0, t0⟩, ⟨z1, x1, y1, t1⟩, ⟨z2, x2, y2, t2⟩, _⟩ := N6.out
        go_wp2_with fail
        with_reducible refine (least_any _ _ _ _).mono ?_
        rintro e w8 ⟨rfl, h8⟩
        rw [HL.out]
        have N8 := hid (N6.out.below h8)
        clear bb z0 x0 y0 t0 z1 x1 y1 t1 z2 x2 y2 t2 N6 h8
        go_wp2_with fail
        with_reducible refine (fits_any _ _ _ t _ (by omega)).mono ?_
        rintro e w9 ⟨rfl, h9⟩
        rw [HL0.out]
        have N9 := hid (N8.out.below h9)
        clear N8 h9
        go_wp2_with fail
        with_reducible refine (curwakes_any _).mono ?_
        rintro e w10 ⟨rfl, h10⟩
        go_wp2
        go_returns
        exact ⟨rfl, (N9.out.below h10).1⟩
      · have hM := hid (HM.out rfl (by omega))
        obtain ⟨bb, ⟨z0, x0, y0, t0⟩, ⟨z1, x1, y1, t1⟩, ⟨z2, x2, y2, t2⟩, _⟩ := N6.out
        go_wp2_with fail
        with_reducible refine (fits_any _ _ _ u _ (by omega)).mono ?_
        rintro e w7 ⟨rfl, h7⟩
        rw [hM.out]
        have N7 := hid (N6.out.below h7)
        clear bb z0 x0 y0 t0 z1 x1 y1 t1 z2 x2 y2 t2 N6 h7
        obtain ⟨bb, ⟨z0, x0, y0, t0⟩, ⟨z1, x1, y1, t1⟩, ⟨z2, x2, y2, t2⟩, _⟩ := N7.out
        go_wp2_with fail
        with_reducible refine (least_any _ _ _ _).mono ?_
        rintro e w8 ⟨rfl, h8⟩
        rw [HL.out]
        have N8 := hid (N7.out.below h8)
        clear bb z0 x0 y0 t0 z1 x1 y1 t1 z2 x2 y2 t2 N7 h8
        go_wp2_with fail
        with_reducible refine (fits_any _ _ _ t _ (by omega)).mono ?_
        rintro e w9 ⟨rfl, h9⟩
        rw [HL0.out]
        have N9 := hid (N8.out.below h9)
        clear N8 h9
        go_wp2_with fail
        with_reducible refine (curwakes_any _).mono ?_
        rintro e w10 ⟨rfl, h10⟩
        go_wp2
        go_returns
        exact ⟨rfl, (N9.out.below h10).1⟩

theorem callSums_any (g : Bool) (c k : Int) (g' : Bool) (c' k' : Int) (t : ByteArray) (ht : t.size ≤ 9223372036854775807) (u : ByteArray) (hu : u.size ≤ 9223372036854775807) (w : World) :
    Calls Try.prog 5 #[agg g c k, agg g' c' k', .string t, .string u] w fun e w' => e = .returned (.bool true) ∧ Below w.heap.size w w' := by
  by_cases h1 : t.size ≤ 60
  · by_cases h2 : u.size ≤ 60
    · by_cases hf : fitsV g c k t.data.toList = 0
      · by_cases hf' : fitsV g' c' k' t.data.toList = 0
        · obtain ⟨_, hG, hd, _⟩ := fits_iff.1 hf
          obtain ⟨_, hG', _, _⟩ := fits_iff.1 hf'
          have n1 : Num g c k (wo g c k) := ⟨hG, rfl⟩
          have n2 : Num g' c' k' (wo g' c' k') := ⟨hG', rfl⟩
          have hd1 : digV t.data.toList = ((digV t.data.toList).1, true) := by rw [← hd]
          rcases n1.add n2 with ⟨g2, c2, s2, h3, _, e⟩ | e
          · exact callSums_main g g' c c' k k' t u w h1 h2 hf hf' _ _ _ _ e (.inl ⟨rfl, fits_sum hf hf' h3⟩) _ _ _ hd1 rfl (fun ha hle => fits_more hf ha hle) _ _ rfl (fits_least hf)
          · exact callSums_main g g' c c' k k' t u w h1 h2 hf hf' _ _ _ _ e (.inr rfl) _ _ _ hd1 rfl (fun ha hle => fits_more hf ha hle) _ _ rfl (fits_least hf)
        · exact callSums_second g g' c c' k k' t u w h1 h2 _ hf rfl hf'
      · exact callSums_first g g' c c' k k' t u w h1 h2 _ rfl hf
    · exact callSums_long g g' c c' k k' t u w ht hu (.inr ⟨h1, by omega⟩)
  · exact callSums_long g g' c c' k k' t u w ht hu (.inl (by omega))
end Go.Proofs.Ytjpndajbkemnlaa
