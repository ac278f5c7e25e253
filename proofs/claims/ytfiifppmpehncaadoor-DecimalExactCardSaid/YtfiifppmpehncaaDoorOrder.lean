/-
  DecimalOrder's walk.
-/
import Derived.Test.YtfiifppmpehncaaDoorNum
namespace Go.Proofs.YtfiifppmpehncaaDoor
open Go.RowKit Go.Shelf

theorem boxes3 (w : World) (g g' g2 : Bool) (c c' c2 s s' s2 : Int) (t : TypeId) :
    Now w (((w.alloc (.cells #[.bool g, .int .i64 c, .int .i64 s] t)).alloc (.cells #[.bool g', .int .i64 c', .int .i64 s'] t)).alloc (.cells #[.bool g2, .int .i64 c2, .int .i64 s2] t))
      [(w.heap.size + 1 + 1, g2, c2, s2), (w.heap.size + 1, g', c', s'), (w.heap.size, g, c, s)] := by
  have := (((Now.start w).box g c s t).box g' c' s' t).box g2 c2 s2 t
  simpa using this

set_option maxRecDepth 100000 in
set_option maxHeartbeats 2000000 in
/-- Not all three are good. -/
theorem order_bad (ga gb gc : Bool) (ca cb cc sa sb sc : Int) (w : World) (ht : Tab w) (hbad : goodB ga ca sa = false ∨ goodB gb cb sb = false ∨ goodB gc cc sc = false) :
    Calls Tryd.prog 8 #[agg ga ca sa, agg gb cb sb, agg gc cc sc] w fun e w' => e = .returned (.bool true) ∧ Below w.heap.size w w' := by
  have N0 := hid (boxes3 w ga gb gc ca cb cc sa sb sc 24)
  have HT := hid ht
  have HBad := hid hbad
  clear ht hbad
  go_enter Tryd.func8, Tryd.ntmps8
  go_wp2_with fail
  with_reducible refine (good_any _ _ _ _).mono ?_
  rintro e w1 ⟨rfl, h1⟩
  have N1 := hid (N0.out.below h1)
  obtain ⟨b1, ⟨z1, x0, x1, x2⟩, ⟨z2, y0, y1, y2⟩, ⟨z3, u0, u1, u2⟩, _⟩ := N1.out
  clear h1 N0
  cases hA : goodB ga ca sa
  · clear hA
    go_wp2_with fail
    with_reducible refine (wakes_any _ (HT.out.below b1)).mono ?_
    rintro e w2 ⟨rfl, h2⟩
    go_wp2
    go_returns
    exact ⟨rfl, b1.trans (h2.mono b1.size)⟩
  · have HA := hid hA
    clear hA
    go_wp2_with fail
    with_reducible refine (good_any _ _ _ _).mono ?_
    rintro e w2 ⟨rfl, h2⟩
    have N2 := hid (N1.out.below h2)
    clear b1 z1 x0 x1 x2 z2 y0 y1 y2 z3 u0 u1 u2 N1 h2
    obtain ⟨b2, ⟨z1, x0, x1, x2⟩, ⟨z2, y0, y1, y2⟩, ⟨z3, u0, u1, u2⟩, _⟩ := N2.out
    cases hB : goodB gb cb sb
    · clear hB
      go_wp2_with fail
      with_reducible refine (wakes_any _ (HT.out.below b2)).mono ?_
      rintro e w3 ⟨rfl, h3⟩
      go_wp2
      go_returns
      exact ⟨rfl, b2.trans (h3.mono b2.size)⟩
    · have HC : Hid (goodB gc cc sc = false) := by
        show _ = _
        rcases HBad.out with h | h | h
        · rw [HA.out] at h; cases h
        · rw [hB] at h; cases h
        · exact h
      clear hB
      go_wp2_with fail
      with_reducible refine (good_any _ _ _ _).mono ?_
      rintro e w3 ⟨rfl, h3⟩
      rw [HC.out]
      have b3 := b2.trans (h3.mono b2.size)
      go_wp2_with fail
      with_reducible refine (wakes_any _ (HT.out.below b3)).mono ?_
      rintro e w4 ⟨rfl, h4⟩
      go_wp2
      go_returns
      exact ⟨rfl, b3.trans (h4.mono b3.size)⟩

theorem cmpZ_tri {x y z : Int} (h1 : cmpZ x y ≤ 0) (h2 : cmpZ y z ≤ 0) : cmpZ x z ≤ 0 := by
  rw [cmpZ_le] at h1 h2 ⊢; omega

set_option maxRecDepth 100000 in
set_option maxHeartbeats 4000000 in
theorem order_good (ga gb gc : Bool) (ca cb cc sa sb sc A B C : Int) (w : World) (ht : Tab w) (ha : Num ga ca sa A) (hb : Num gb cb sb B) (hc : Num gc cc sc C) :
    Calls Tryd.prog 8 #[agg ga ca sa, agg gb cb sb, agg gc cc sc] w fun e w' => e = .returned (.bool true) ∧ Below w.heap.size w w' := by
  have N0 := hid (boxes3 w ga gb gc ca cb cc sa sb sc 24)
  have HT := hid ht
  have GA := hid ha.1
  have GB := hid hb.1
  have GC := hid hc.1
  obtain ⟨c1, s1, hl, _, HL⟩ := ha.least
  have HL := hid HL
  have hna := ha.neg
  have hnb := hb.neg
  have KS := hid (cmpZ_self A)
  have KN := hid (cmpZ_neg A B)
  have KT := hid (@cmpZ_tri A B C)
  have K1 := cmpZ_bd A B
  have K2 := cmpZ_bd B C
  clear ht
  go_enter Tryd.func8, Tryd.ntmps8
  go_wp2_with fail
  with_reducible refine (good_any _ _ _ _).mono ?_
  rintro e w1 ⟨rfl, h1⟩
  rw [GA.out]
  have N1 := hid (N0.out.below h1)
  clear h1 N0
  obtain ⟨b1, ⟨z1, x0, x1, x2⟩, ⟨z2, y0, y1, y2⟩, ⟨z3, u0, u1, u2⟩, _⟩ := N1.out
  go_wp2_with fail
  with_reducible refine (good_any _ _ _ _).mono ?_
  rintro e w2 ⟨rfl, h2⟩
  rw [GB.out]
  have N2 := hid (N1.out.below h2)
  clear b1 z1 x0 x1 x2 z2 y0 y1 y2 z3 u0 u1 u2 N1 h2
  obtain ⟨b2, ⟨z1, x0, x1, x2⟩, ⟨z2, y0, y1, y2⟩, ⟨z3, u0, u1, u2⟩, _⟩ := N2.out
  go_wp2_with fail
  with_reducible refine (good_any _ _ _ _).mono ?_
  rintro e w3 ⟨rfl, h3⟩
  rw [GC.out]
  have N3 := hid (N2.out.below h3)
  clear b2 z1 x0 x1 x2 z2 y0 y1 y2 z3 u0 u1 u2 N2 h3
  obtain ⟨b3, ⟨z1, x0, x1, x2⟩, ⟨z2, y0, y1, y2⟩, ⟨z3, u0, u1, u2⟩, _⟩ := N3.out
  go_wp2_with fail
  with_reducible refine (cmp_num ha hb _).mono ?_
  rintro e w4 ⟨rfl, h4⟩
  have N4 := hid (N3.out.below h4)
  clear b3 z1 x0 x1 x2 z2 y0 y1 y2 z3 u0 u1 u2 N3 h4
  obtain ⟨b4, ⟨z1, x0, x1, x2⟩, ⟨z2, y0, y1, y2⟩, ⟨z3, u0, u1, u2⟩, _⟩ := N4.out
  by_cases hab : cmpZ A B ≤ 0
  · by_cases hbc : cmpZ B C ≤ 0
    · have hac : cmpZ A C ≤ 0 := KT.out hab hbc
      have K3 := cmpZ_bd A C
      go_wp2_with fail
      with_reducible refine (cmp_num hb hc _).mono ?_
      rintro e w5 ⟨rfl, h5⟩
      have N5 := hid (N4.out.below h5)
      clear b4 z1 x0 x1 x2 z2 y0 y1 y2 z3 u0 u1 u2 N4 h5
      obtain ⟨b5, ⟨z1, x0, x1, x2⟩, ⟨z2, y0, y1, y2⟩, ⟨z3, u0, u1, u2⟩, _⟩ := N5.out
      go_wp2_with fail
      with_reducible refine (cmp_num ha hc _).mono ?_
      rintro e w6 ⟨rfl, h6⟩
      have N6 := hid (N5.out.below h6)
      clear b5 z1 x0 x1 x2 z2 y0 y1 y2 z3 u0 u1 u2 N5 h6
      obtain ⟨b6, ⟨z1, x0, x1, x2⟩, ⟨z2, y0, y1, y2⟩, ⟨z3, u0, u1, u2⟩, _⟩ := N6.out
      go_wp2_with fail
      with_reducible refine (cmp_num ha ha _).mono ?_
      rintro e w7 ⟨rfl, h7⟩
      rw [KS.out]
      have N7 := hid (N6.out.below h7)
      clear b6 z1 x0 x1 x2 z2 y0 y1 y2 z3 u0 u1 u2 N6 h7
      obtain ⟨b7, ⟨z1, x0, x1, x2⟩, ⟨z2, y0, y1, y2⟩, ⟨z3, u0, u1, u2⟩, _⟩ := N7.out
      have HS : Hid (∀ w' : World, Below w7.heap.size w7 w' → w'.cell? ⟨w.heap.size, 0, none⟩ = some (.bool ga) ∧ w'.cell? ⟨w.heap.size, 1, none⟩ = some (.int .i64 ca) ∧ w'.cell? ⟨w.heap.size, 2, none⟩ = some (.int .i64 sa) ∧ w'.cell? ⟨w.heap.size + 1, 0, none⟩ = some (.bool gb) ∧ w'.cell? ⟨w.heap.size + 1, 1, none⟩ = some (.int .i64 cb) ∧ w'.cell? ⟨w.heap.size + 1, 2, none⟩ = some (.int .i64 sb)) := fun w' hb => by
        obtain ⟨_, _, ⟨_, y0, y1, y2⟩, ⟨_, x0, x1, x2⟩, _⟩ := N7.out.below hb
        exact ⟨x0, x1, x2, y0, y1, y2⟩
      have HT2 := hid (HT.out.below b7)
      have h3r : Below w7.heap.size w7 w7.drew := (Below.refl _ _).drew
      have hsz := b7.size
      go_wp2_with fail
      go_region_held3 (fun w' => w'.cell? ⟨w.heap.size, 0, none⟩ = some (.bool ga) ∧ w'.cell? ⟨w.heap.size, 1, none⟩ = some (.int .i64 ca) ∧ w'.cell? ⟨w.heap.size, 2, none⟩ = some (.int .i64 sa) ∧ w'.cell? ⟨w.heap.size + 1, 0, none⟩ = some (.bool gb) ∧ w'.cell? ⟨w.heap.size + 1, 1, none⟩ = some (.int .i64 cb) ∧ w'.cell? ⟨w.heap.size + 1, 2, none⟩ = some (.int .i64 sb)) (with_reducible exact HS.out _ (by with_reducible assumption))
        (first | (go_at_call 19; ((with_reducible refine (HL.out _).mono ?_)); rintro e w' ⟨rfl, hbx⟩; have hB := below_at hbx (by with_reducible assumption)) | (go_at_call 16; ((with_reducible refine (neg_any _ _ _ _).mono ?_)); rintro e w' ⟨rfl, hbx⟩; have hB := below_at hbx (by with_reducible assumption)) | (go_at_call 9; ((with_reducible refine (wakes_any _ (HT2.out.below (by with_reducible assumption))).mono ?_)); rintro e w' ⟨rfl, hbx⟩; have hB := below_at hbx (by with_reducible assumption)) | (go_at_call 23; ((first | (with_reducible refine (cmp_num hl hb _).mono ?_) | (with_reducible refine (cmp_num ha hb _).mono ?_) | (with_reducible refine (cmp_num hb ha _).mono ?_) | ((with_reducible refine (cmp_num hna hnb _).mono ?_); rw [KN.out]))); rintro e w' ⟨rfl, hbx⟩; have hB := below_at hbx (by with_reducible assumption)))
      go_wp2
      go_returns
      exact ⟨rfl, b7.trans (Below.mono (B := w7.heap.size) (by with_reducible assumption) hsz)⟩
    · go_wp2_with fail
      with_reducible refine (cmp_num hb hc _).mono ?_
      rintro e w5 ⟨rfl, h5⟩
      have N5 := hid (N4.out.below h5)
      clear b4 z1 x0 x1 x2 z2 y0 y1 y2 z3 u0 u1 u2 N4 h5
      obtain ⟨b5, ⟨z1, x0, x1, x2⟩, ⟨z2, y0, y1, y2⟩, ⟨z3, u0, u1, u2⟩, _⟩ := N5.out
      go_wp2_with fail
      with_reducible refine (cmp_num ha ha _).mono ?_
      rintro e w6 ⟨rfl, h6⟩
      rw [KS.out]
      have N6 := hid (N5.out.below h6)
      clear b5 z1 x0 x1 x2 z2 y0 y1 y2 z3 u0 u1 u2 N5 h6
      obtain ⟨b6, ⟨z1, x0, x1, x2⟩, ⟨z2, y0, y1, y2⟩, ⟨z3, u0, u1, u2⟩, _⟩ := N6.out
      have HS : Hid (∀ w' : World, Below w6.heap.size w6 w' → w'.cell? ⟨w.heap.size, 0, none⟩ = some (.bool ga) ∧ w'.cell? ⟨w.heap.size, 1, none⟩ = some (.int .i64 ca) ∧ w'.cell? ⟨w.heap.size, 2, none⟩ = some (.int .i64 sa) ∧ w'.cell? ⟨w.heap.size + 1, 0, none⟩ = some (.bool gb) ∧ w'.cell? ⟨w.heap.size + 1, 1, none⟩ = some (.int .i64 cb) ∧ w'.cell? ⟨w.heap.size + 1, 2, none⟩ = some (.int .i64 sb)) := fun w' hb => by
        obtain ⟨_, _, ⟨_, y0, y1, y2⟩, ⟨_, x0, x1, x2⟩, _⟩ := N6.out.below hb
        exact ⟨x0, x1, x2, y0, y1, y2⟩
      have HT2 := hid (HT.out.below b6)
      have h3r : Below w6.heap.size w6 w6.drew := (Below.refl _ _).drew
      have hsz := b6.size
      go_wp2_with fail
      go_region_held3 (fun w' => w'.cell? ⟨w.heap.size, 0, none⟩ = some (.bool ga) ∧ w'.cell? ⟨w.heap.size, 1, none⟩ = some (.int .i64 ca) ∧ w'.cell? ⟨w.heap.size, 2, none⟩ = some (.int .i64 sa) ∧ w'.cell? ⟨w.heap.size + 1, 0, none⟩ = some (.bool gb) ∧ w'.cell? ⟨w.heap.size + 1, 1, none⟩ = some (.int .i64 cb) ∧ w'.cell? ⟨w.heap.size + 1, 2, none⟩ = some (.int .i64 sb)) (with_reducible exact HS.out _ (by with_reducible assumption))
        (first | (go_at_call 19; ((with_reducible refine (HL.out _).mono ?_)); rintro e w' ⟨rfl, hbx⟩; have hB := below_at hbx (by with_reducible assumption)) | (go_at_call 16; ((with_reducible refine (neg_any _ _ _ _).mono ?_)); rintro e w' ⟨rfl, hbx⟩; have hB := below_at hbx (by with_reducible assumption)) | (go_at_call 9; ((with_reducible refine (wakes_any _ (HT2.out.below (by with_reducible assumption))).mono ?_)); rintro e w' ⟨rfl, hbx⟩; have hB := below_at hbx (by with_reducible assumption)) | (go_at_call 23; ((first | (with_reducible refine (cmp_num hl hb _).mono ?_) | (with_reducible refine (cmp_num ha hb _).mono ?_) | (with_reducible refine (cmp_num hb ha _).mono ?_) | ((with_reducible refine (cmp_num hna hnb _).mono ?_); rw [KN.out]))); rintro e w' ⟨rfl, hbx⟩; have hB := below_at hbx (by with_reducible assumption)))
      go_wp2
      go_returns
      exact ⟨rfl, b6.trans (Below.mono (B := w6.heap.size) (by with_reducible assumption) hsz)⟩
  · go_wp2_with fail
    with_reducible refine (cmp_num ha ha _).mono ?_
    rintro e w5 ⟨rfl, h5⟩
    rw [KS.out]
    have N5 := hid (N4.out.below h5)
    clear b4 z1 x0 x1 x2 z2 y0 y1 y2 z3 u0 u1 u2 N4 h5
    obtain ⟨b5, ⟨z1, x0, x1, x2⟩, ⟨z2, y0, y1, y2⟩, ⟨z3, u0, u1, u2⟩, _⟩ := N5.out
    have HS : Hid (∀ w' : World, Below w5.heap.size w5 w' → w'.cell? ⟨w.heap.size, 0, none⟩ = some (.bool ga) ∧ w'.cell? ⟨w.heap.size, 1, none⟩ = some (.int .i64 ca) ∧ w'.cell? ⟨w.heap.size, 2, none⟩ = some (.int .i64 sa) ∧ w'.cell? ⟨w.heap.size + 1, 0, none⟩ = some (.bool gb) ∧ w'.cell? ⟨w.heap.size + 1, 1, none⟩ = some (.int .i64 cb) ∧ w'.cell? ⟨w.heap.size + 1, 2, none⟩ = some (.int .i64 sb)) := fun w' hb => by
      obtain ⟨_, _, ⟨_, y0, y1, y2⟩, ⟨_, x0, x1, x2⟩, _⟩ := N5.out.below hb
      exact ⟨x0, x1, x2, y0, y1, y2⟩
    have HT2 := hid (HT.out.below b5)
    have h3r : Below w5.heap.size w5 w5.drew := (Below.refl _ _).drew
    have hsz := b5.size
    go_wp2_with fail
    go_region_held3 (fun w' => w'.cell? ⟨w.heap.size, 0, none⟩ = some (.bool ga) ∧ w'.cell? ⟨w.heap.size, 1, none⟩ = some (.int .i64 ca) ∧ w'.cell? ⟨w.heap.size, 2, none⟩ = some (.int .i64 sa) ∧ w'.cell? ⟨w.heap.size + 1, 0, none⟩ = some (.bool gb) ∧ w'.cell? ⟨w.heap.size + 1, 1, none⟩ = some (.int .i64 cb) ∧ w'.cell? ⟨w.heap.size + 1, 2, none⟩ = some (.int .i64 sb)) (with_reducible exact HS.out _ (by with_reducible assumption))
      (first | (go_at_call 19; ((with_reducible refine (HL.out _).mono ?_)); rintro e w' ⟨rfl, hbx⟩; have hB := below_at hbx (by with_reducible assumption)) | (go_at_call 16; ((with_reducible refine (neg_any _ _ _ _).mono ?_)); rintro e w' ⟨rfl, hbx⟩; have hB := below_at hbx (by with_reducible assumption)) | (go_at_call 9; ((with_reducible refine (wakes_any _ (HT2.out.below (by with_reducible assumption))).mono ?_)); rintro e w' ⟨rfl, hbx⟩; have hB := below_at hbx (by with_reducible assumption)) | (go_at_call 23; ((first | (with_reducible refine (cmp_num hl hb _).mono ?_) | (with_reducible refine (cmp_num ha hb _).mono ?_) | (with_reducible refine (cmp_num hb ha _).mono ?_) | ((with_reducible refine (cmp_num hna hnb _).mono ?_); rw [KN.out]))); rintro e w' ⟨rfl, hbx⟩; have hB := below_at hbx (by with_reducible assumption)))
    go_wp2
    go_returns
    exact ⟨rfl, b5.trans (Below.mono (B := w5.heap.size) (by with_reducible assumption) hsz)⟩

theorem order_any (ga gb gc : Bool) (ca cb cc sa sb sc : Int) (w : World) (ht : Tab w) :
    Calls Tryd.prog 8 #[agg ga ca sa, agg gb cb sb, agg gc cc sc] w fun e w' => e = .returned (.bool true) ∧ Below w.heap.size w w' := by
  cases hA : goodB ga ca sa
  · exact order_bad ga gb gc ca cb cc sa sb sc w ht (.inl hA)
  · cases hB : goodB gb cb sb
    · exact order_bad ga gb gc ca cb cc sa sb sc w ht (.inr (.inl hB))
    · cases hC : goodB gc cc sc
      · exact order_bad ga gb gc ca cb cc sa sb sc w ht (.inr (.inr hC))
      · exact order_good ga gb gc ca cb cc sa sb sc _ _ _ w ht ⟨hA, rfl⟩ ⟨hB, rfl⟩ ⟨hC, rfl⟩
end Go.Proofs.YtfiifppmpehncaaDoor
