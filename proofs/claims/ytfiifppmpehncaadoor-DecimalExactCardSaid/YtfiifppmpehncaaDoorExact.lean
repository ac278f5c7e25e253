/-
  DecimalExact's walk.
-/
import Derived.Test.YtfiifppmpehncaaDoorOrder
import Derived.Deep.DeepCutAuto
import Derived.StillTailTactics
import Derived.Deep.QuietTactic
import Derived.BigQuiet
import Derived.Lib.QuietBelow
namespace Go.Proofs.YtfiifppmpehncaaDoor
open Go.RowKit Go.Shelf

theorem Now.more {w0 W wx : World} {l} {n : Nat} {g : Bool} {c s : Int} (hN : Now w0 W l) (hb : Below W.heap.size W wx) (hbox : BoxNum wx n g c s) : Now w0 wx ((n, g, c, s) :: l) :=
  ⟨(hN.below hb).1, hbox, (hN.below hb).2⟩
theorem BoxNum.set3 {w : World} {b : Nat} {g0 : Bool} {c0 s0 : Int} (h : BoxNum w b g0 c0 s0) (g : Bool) (c s : Int) :
    BoxNum (((w.setCell ⟨b, 0, none⟩ (.bool g)).setCell ⟨b, 1, none⟩ (.int .i64 c)).setCell ⟨b, 2, none⟩ (.int .i64 s)) b g c s := by
  obtain ⟨h0, h1, h2, h3⟩ := h
  have hb : BoxNum (w.setCell ⟨b, 0, none⟩ (.bool g)) b g c0 s0 :=
    ⟨by simpa [World.setCell] using h0, World.cell?_setCell_same' _ _ _ (by rw [h1]; rfl), (World.cell?_setCell_other _ _ _ _ (by simp)).trans h2, (World.cell?_setCell_other _ _ _ _ (by simp)).trans h3⟩
  exact hb.put12 c s
theorem below_alloc_at {a w : World} (h : Below a.heap.size a w) (o : Obj) : Below a.heap.size a (w.alloc o) := h.alloc h.size _
/-- A sum's result, as the walk meets it. -/
def SumIs (g : Bool) (c s : Int) (g' : Bool) (c' s' : Int) (W : Int) (xg : Bool) (xc xs xe : Int) : Prop :=
  addN g c s g' c' s' = (xg, xc, xs, xe) ∧ ((xe = 0 ∧ Num xg xc xs W ∧ xs = max s s') ∨ (xe = 11 ∧ xg = false ∧ xc = 0 ∧ xs = 0))
theorem Num.sum {g g' : Bool} {c c' s s' W W' : Int} (h : Num g c s W) (h' : Num g' c' s' W') : ∃ xg xc xs xe, SumIs g c s g' c' s' (W + W') xg xc xs xe := by
  rcases h.add h' with ⟨g2, c2, s2, hn, hs, ha⟩ | ha
  · exact ⟨g2, c2, s2, 0, ha, .inl ⟨rfl, hn, hs⟩⟩
  · exact ⟨false, 0, 0, 11, ha, .inr ⟨rfl, rfl, rfl, rfl⟩⟩
theorem add_sum {g g' : Bool} {c c' s s' W xc xs xe : Int} {xg : Bool} (h : SumIs g c s g' c' s' W xg xc xs xe) (w : World) :
    Calls Tryd.prog 21 #[agg g c s, agg g' c' s'] w fun e w' => e = .returned (numV xg xc xs xe) ∧ Below w.heap.size w w' := by
  have := add_any g g' c c' s s' w
  rw [h.1] at this
  exact this
theorem SumIs.comm {g g' : Bool} {c c' s s' W xc xs xe : Int} {xg : Bool} (ha : goodB g c s = true) (hb : goodB g' c' s' = true) (h : SumIs g c s g' c' s' W xg xc xs xe) : SumIs g' c' s' g c s W xg xc xs xe := by
  refine ⟨by rw [addN_comm ha hb]; exact h.1, ?_⟩
  rw [Int.max_comm s' s]
  exact h.2
/-- A number and its negative are 0. -/
theorem sum_neg {g : Bool} {c s W : Int} (h : Num g c s W) : addN g c s (negB g c) c s = (false, 0, s, 0) := by
  have h5 := (goodB_parts h.1).2.2.2.1
  rw [add_ex h.1 (neg_good h.1)]
  have e : max s s = s := Int.max_self s
  have e2 : ex g c s s + ex (negB g c) c s s = 0 := by
    have h1 := neg_wo g c s
    have h2 := ex_wo g c s s (Int.le_refl _) h5
    have h3 := ex_wo (negB g c) c s s (Int.le_refl _) h5
    have hp := p10_pos (5 - s).toNat
    have : (ex g c s s + ex (negB g c) c s s) * p10 (5 - s).toNat = 0 := by rw [Int.add_mul, ← h2, ← h3, h1]; omega
    rcases Int.mul_eq_zero.1 this with h | h
    · exact h
    · omega
  rw [e, e2]
  rfl

theorem cmpZ_add (x y t : Int) : cmpZ (x + t) (y + t) = cmpZ x y := by
  unfold cmpZ
  by_cases e1 : x < y
  · rw [if_pos e1, if_pos (by omega)]
  · rw [if_neg e1, if_neg (by omega)]
    by_cases e2 : y < x
    · rw [if_pos e2, if_pos (by omega)]
    · rw [if_neg e2, if_neg (by omega)]

set_option maxRecDepth 100000 in
set_option maxHeartbeats 2000000 in
/-- Not all three are good. -/
theorem exact_bad (ga gb gc : Bool) (ca cb cc sa sb sc : Int) (w : World) (ht : Tab w) (hbad : goodB ga ca sa = false ∨ goodB gb cb sb = false ∨ goodB gc cc sc = false) :
    Calls Tryd.prog 7 #[agg ga ca sa, agg gb cb sb, agg gc cc sc] w fun e w' => e = .returned (.bool true) ∧ Below w.heap.size w w' := by
  have N0 := hid (boxes3 w ga gb gc ca cb cc sa sb sc 24)
  have HT := hid ht
  have HBad := hid hbad
  clear ht hbad
  go_enter Tryd.func7, Tryd.ntmps7
  go_wp2_with fail
  with_reducible refine (good_any _ _ _ _).mono ?_
  rintro e w1 ⟨rfl, h1⟩
  have N1 := hid (N0.out.below h1)
  obtain ⟨b1, ⟨z1, x0, x1, x2⟩, ⟨z2, y0, y1, y2⟩, ⟨z3, u0, u1, u2⟩, _⟩ := N1.out
  clear h1 N0
  cases hA : goodB ga ca sa
  · clear hA
    go_wp2_with fail
    with_reducible refine (wakes_any _ (HT.out.below b1)).mono ?_
    rintro e w2 ⟨rfl, h2⟩
    go_wp2
    go_returns
    exact ⟨rfl, b1.trans (h2.mono b1.size)⟩
  · have HA := hid hA
    clear hA
    go_wp2_with fail
    with_reducible refine (good_any _ _ _ _).mono ?_
    rintro e w2 ⟨rfl, h2⟩
    have N2 := hid (N1.out.below h2)
    clear b1 z1 x0 x1 x2 z2 y0 y1 y2 z3 u0 u1 u2 N1 h2
    obtain ⟨b2, ⟨z1, x0, x1, x2⟩, ⟨z2, y0, y1, y2⟩, ⟨z3, u0, u1, u2⟩, _⟩ := N2.out
    cases hB : goodB gb cb sb
    · clear hB
      go_wp2_with fail
      with_reducible refine (wakes_any _ (HT.out.below b2)).mono ?_
      rintro e w3 ⟨rfl, h3⟩
      go_wp2
      go_returns
      exact ⟨rfl, b2.trans (h3.mono b2.size)⟩
    · have HC : Hid (goodB gc cc sc = false) := by
        show _ = _
        rcases HBad.out with h | h | h
        · rw [HA.out] at h; cases h
        · rw [hB] at h; cases h
        · exact h
      clear hB
      go_wp2_with fail
      with_reducible refine (good_any _ _ _ _).mono ?_
      rintro e w3 ⟨rfl, h3⟩
      rw [HC.out]
      have b3 := b2.trans (h3.mono b2.size)
      go_wp2_with fail
      with_reducible refine (wakes_any _ (HT.out.below b3)).mono ?_
      rintro e w4 ⟨rfl, h4⟩
      go_wp2
      go_returns
      exact ⟨rfl, b3.trans (h4.mono b3.size)⟩

set_option maxRecDepth 100000 in
set_option maxHeartbeats 30000000 in
theorem exact_good (ga gb gc : Bool) (ca cb cc sa sb sc A B C : Int) (w : World) (ht : Tab w) (ha : Num ga ca sa A) (hb : Num gb cb sb B) (hc : Num gc cc sc C) :
    Calls Tryd.prog 7 #[agg ga ca sa, agg gb cb sb, agg gc cc sc] w fun e w' => e = .returned (.bool true) ∧ Below w.heap.size w w' := by
  have N0 := hid (boxes3 w ga gb gc ca cb cc sa sb sc 24)
  have HT := hid ht
  have GA := hid ha.1
  have GB := hid hb.1
  have GC := hid hc.1
  have hna := ha.neg
  have hnb := hb.neg
  obtain ⟨xg, xc, xs, xe, hx⟩ := ha.sum hb
  have hx2 := hx.comm ha.1 hb.1
  have HZ := hid (sum_neg ha)
  have KW := hid (cmpZ_swap A B)
  clear ht
  go_enter Tryd.func7, Tryd.ntmps7
  go_wp2_with fail
  with_reducible refine (good_any _ _ _ _).mono ?_
  rintro e w1 ⟨rfl, h1⟩
  rw [GA.out]
  have N1 := hid (N0.out.below h1)
  clear N0 h1
  obtain ⟨bb, ⟨z0, x0, y0, t0⟩, ⟨z1, x1, y1, t1⟩, ⟨z2, x2, y2, t2⟩, _⟩ := N1.out
  go_wp2_with fail
  with_reducible refine (good_any _ _ _ _).mono ?_
  rintro e w2 ⟨rfl, h2⟩
  rw [GB.out]
  clear bb z0 x0 y0 t0 z1 x1 y1 t1 z2 x2 y2 t2
  have N2 := hid (N1.out.below h2)
  clear N1 h2
  obtain ⟨bb, ⟨z0, x0, y0, t0⟩, ⟨z1, x1, y1, t1⟩, ⟨z2, x2, y2, t2⟩, _⟩ := N2.out
  go_wp2_with fail
  with_reducible refine (good_any _ _ _ _).mono ?_
  rintro e w3 ⟨rfl, h3⟩
  rw [GC.out]
  clear bb z0 x0 y0 t0 z1 x1 y1 t1 z2 x2 y2 t2
  have N3 := hid (N2.out.below h3)
  clear N2 h3
  obtain ⟨bb, ⟨z0, x0, y0, t0⟩, ⟨z1, x1, y1, t1⟩, ⟨z2, x2, y2, t2⟩, _⟩ := N3.out
  go_wp2_with fail
  with_reducible refine (add_sum hx _).mono ?_
  rintro e w4 ⟨rfl, h4⟩
  clear bb z0 x0 y0 t0 z1 x1 y1 t1 z2 x2 y2 t2
  have N4 := hid (N3.out.below h4)
  clear N3 h4
  obtain ⟨bb, ⟨z0, x0, y0, t0⟩, ⟨z1, x1, y1, t1⟩, ⟨z2, x2, y2, t2⟩, _⟩ := N4.out
  clear bb z0 x0 y0 t0 z1 x1 y1 t1 z2 x2 y2 t2
  have N5 := hid (N4.out.box xg xc xs 24)
  clear N4
  obtain ⟨bb, ⟨z0, x0, y0, t0⟩, ⟨z1, x1, y1, t1⟩, ⟨z2, x2, y2, t2⟩, ⟨z3, x3, y3, t3⟩, _⟩ := N5.out
  go_wp2_with fail
  with_reducible refine (add_sum hx2 _).mono ?_
  rintro e w6 ⟨rfl, h6⟩
  clear bb z0 x0 y0 t0 z1 x1 y1 t1 z2 x2 y2 t2 z3 x3 y3 t3
  have N6 := hid (N5.out.below h6)
  clear N5 h6
  obtain ⟨bb, ⟨z0, x0, y0, t0⟩, ⟨z1, x1, y1, t1⟩, ⟨z2, x2, y2, t2⟩, ⟨z3, x3, y3, t3⟩, _⟩ := N6.out
  clear bb z0 x0 y0 t0 z1 x1 y1 t1 z2 x2 y2 t2 z3 x3 y3 t3
  have N7 := hid (N6.out.box xg xc xs 24)
  clear N6
  obtain ⟨bb, ⟨z0, x0, y0, t0⟩, ⟨z1, x1, y1, t1⟩, ⟨z2, x2, y2, t2⟩, ⟨z3, x3, y3, t3⟩, ⟨z4, x4, y4, t4⟩, _⟩ := N7.out
  go_upto_region 5 with fail
  obtain ⟨W, hW⟩ : ∃ W, W = w6.alloc (.cells #[.bool xg, .int .i64 xc, .int .i64 xs] 24) := ⟨_, rfl⟩
  rw [← hW] at N7 ⊢
  clear hW bb z0 x0 y0 t0 z1 x1 y1 t1 z2 x2 y2 t2 z3 x3 y3 t3 z4 x4 y4 t4
  go_cut [11, 12] (fun p e wx => ∃ n : Nat, p = .pointer (some ⟨n, 0, none⟩) ∧ e = .int .i64 0 ∧ Now w wx [(n, false, 0, sa), (w6.heap.size, xg, xc, xs), (w4.heap.size, xg, xc, xs), (w.heap.size + 1 + 1, gc, cc, sc), (w.heap.size + 1, gb, cb, sb), (w.heap.size, ga, ca, sa)])
  case first =>
    have HS : Hid (∀ w' : World, Below W.heap.size W w' → w'.cell? ⟨w.heap.size, 0, none⟩ = some (.bool ga) ∧ w'.cell? ⟨w.heap.size, 1, none⟩ = some (.int .i64 ca) ∧ w'.cell? ⟨w.heap.size, 2, none⟩ = some (.int .i64 sa)) := fun w' hb => by
      obtain ⟨_, _, _, _, _, ⟨_, x0, x1, x2⟩, _⟩ := N7.out.below hb
      exact ⟨x0, x1, x2⟩
    have h3r : Below W.heap.size W W.drew := (Below.refl _ _).drew
    go_region_held3 (fun w' => w'.cell? ⟨w.heap.size, 0, none⟩ = some (.bool ga) ∧ w'.cell? ⟨w.heap.size, 1, none⟩ = some (.int .i64 ca) ∧ w'.cell? ⟨w.heap.size, 2, none⟩ = some (.int .i64 sa)) (first | with_reducible exact HS.out _ (by with_reducible assumption) | with_reducible exact HS.out _ (below_alloc_at (by with_reducible assumption) _) | ((refine HS.out _ ?_); go_grown; done))
      (first | (go_at_call 16; ((with_reducible refine (neg_any _ _ _ _).mono ?_)); rintro e w' ⟨rfl, hbx⟩; have hB : Below W.heap.size W w' := (by refine below_at hbx ?_; go_grown; done); obtain ⟨hcc, hff⟩ := bcell hbx; have hss := hB.size; have hst := hbx.size; (try simp only [World.size_alloc, World.size_drew] at hst); (try have hsu : W.heap.size < w'.heap.size := (by omega))) | (go_at_call 21; ((with_reducible refine (add_any _ _ _ _ _ _ _).mono ?_)); rintro e w' ⟨rfl, hbx⟩; rw [HZ.out]; have hB : Below W.heap.size W w' := (by refine below_at hbx ?_; go_grown; done); obtain ⟨hcc, hff⟩ := bcell hbx; have hss := hB.size; have hst := hbx.size; (try simp only [World.size_alloc] at hst); (try have hsu : W.heap.size < w'.heap.size := (by omega))))
    all_goals
      go_wp2_with fail
      go_meet
    all_goals refine ⟨_, rfl, rfl, Now.more N7.out ?_ ?_⟩
    all_goals first | (go_grown; done) | skip
    all_goals first | exact BoxNum.new _ _ _ _ _ | skip
    all_goals refine BoxNum.set3 (g0 := false) (c0 := 0) (s0 := 0) ⟨?_, ?_, ?_, ?_⟩ _ _ _
    all_goals first | omega | (simp [go_sem, *]; done) | (simp [go_sem, *]; omega)
  case rest =>
    obtain ⟨n, rfl, rfl, N9⟩ := hcut
    have N9 := hid N9
    have KX : Hid (-(cmpZ B A) = cmpZ A B) := KW.out.symm
    have KB := cmpZ_bd B A
    have hne : (cmpZ A B != IntKind.i64.wrap (-cmpZ B A)) = false := by
      have e : IntKind.i64.wrap (-cmpZ B A) = cmpZ A B := by rw [IntWalk.i64_in _ (by omega)]; exact KX.out
      rw [e]; simp
    clear N7
    have HS : Hid (∀ w' : World, Below wc.heap.size wc w' → w'.cell? ⟨n, 0, none⟩ = some (.bool false) ∧ w'.cell? ⟨n, 1, none⟩ = some (.int .i64 0) ∧ w'.cell? ⟨n, 2, none⟩ = some (.int .i64 sa) ∧ w'.cell? ⟨w6.heap.size, 0, none⟩ = some (.bool xg) ∧ w'.cell? ⟨w6.heap.size, 1, none⟩ = some (.int .i64 xc) ∧ w'.cell? ⟨w6.heap.size, 2, none⟩ = some (.int .i64 xs) ∧ w'.cell? ⟨w4.heap.size, 0, none⟩ = some (.bool xg) ∧ w'.cell? ⟨w4.heap.size, 1, none⟩ = some (.int .i64 xc) ∧ w'.cell? ⟨w4.heap.size, 2, none⟩ = some (.int .i64 xs) ∧ w'.cell? ⟨w.heap.size + 1 + 1, 0, none⟩ = some (.bool gc) ∧ w'.cell? ⟨w.heap.size + 1 + 1, 1, none⟩ = some (.int .i64 cc) ∧ w'.cell? ⟨w.heap.size + 1 + 1, 2, none⟩ = some (.int .i64 sc) ∧ w'.cell? ⟨w.heap.size + 1, 0, none⟩ = some (.bool gb) ∧ w'.cell? ⟨w.heap.size + 1, 1, none⟩ = some (.int .i64 cb) ∧ w'.cell? ⟨w.heap.size + 1, 2, none⟩ = some (.int .i64 sb) ∧ w'.cell? ⟨w.heap.size, 0, none⟩ = some (.bool ga) ∧ w'.cell? ⟨w.heap.size, 1, none⟩ = some (.int .i64 ca) ∧ w'.cell? ⟨w.heap.size, 2, none⟩ = some (.int .i64 sa)) := fun w' hb => by
      obtain ⟨_, ⟨_, p0, q0, r0⟩, ⟨_, p1, q1, r1⟩, ⟨_, p2, q2, r2⟩, ⟨_, p3, q3, r3⟩, ⟨_, p4, q4, r4⟩, ⟨_, p5, q5, r5⟩, _⟩ := N9.out.below hb
      exact ⟨p0, q0, r0, p1, q1, r1, p2, q2, r2, p3, q3, r3, p4, q4, r4, p5, q5, r5⟩
    have h3r : Below wc.heap.size wc wc.drew := (Below.refl _ _).drew
    have hbc := N9.out.1
    go_wp2_with fail
    go_region_held3 (fun w' => w'.cell? ⟨n, 0, none⟩ = some (.bool false) ∧ w'.cell? ⟨n, 1, none⟩ = some (.int .i64 0) ∧ w'.cell? ⟨n, 2, none⟩ = some (.int .i64 sa) ∧ w'.cell? ⟨w6.heap.size, 0, none⟩ = some (.bool xg) ∧ w'.cell? ⟨w6.heap.size, 1, none⟩ = some (.int .i64 xc) ∧ w'.cell? ⟨w6.heap.size, 2, none⟩ = some (.int .i64 xs) ∧ w'.cell? ⟨w4.heap.size, 0, none⟩ = some (.bool xg) ∧ w'.cell? ⟨w4.heap.size, 1, none⟩ = some (.int .i64 xc) ∧ w'.cell? ⟨w4.heap.size, 2, none⟩ = some (.int .i64 xs) ∧ w'.cell? ⟨w.heap.size + 1 + 1, 0, none⟩ = some (.bool gc) ∧ w'.cell? ⟨w.heap.size + 1 + 1, 1, none⟩ = some (.int .i64 cc) ∧ w'.cell? ⟨w.heap.size + 1 + 1, 2, none⟩ = some (.int .i64 sc) ∧ w'.cell? ⟨w.heap.size + 1, 0, none⟩ = some (.bool gb) ∧ w'.cell? ⟨w.heap.size + 1, 1, none⟩ = some (.int .i64 cb) ∧ w'.cell? ⟨w.heap.size + 1, 2, none⟩ = some (.int .i64 sb) ∧ w'.cell? ⟨w.heap.size, 0, none⟩ = some (.bool ga) ∧ w'.cell? ⟨w.heap.size, 1, none⟩ = some (.int .i64 ca) ∧ w'.cell? ⟨w.heap.size, 2, none⟩ = some (.int .i64 sa)) (with_reducible exact HS.out _ (by with_reducible assumption))
      (first | (go_at_call 23; ((first | (with_reducible refine (cmp_num ha hb _).mono ?_) | (with_reducible refine (cmp_num hb ha _).mono ?_))); rintro e w' ⟨rfl, hbx⟩; have hB := below_at hbx (by with_reducible assumption)))
    go_upto_if 90 with fail
    go_cut [] (fun wx => Now w wx [(w.heap.size + 1 + 1, gc, cc, sc), (w.heap.size + 1, gb, cb, sb), (w.heap.size, ga, ca, sa)])
    case first =>
      have hB : Below wc.heap.size wc w' := by with_reducible assumption
      have N10 := hid (N9.out.below hB)
      rcases hx.2 with ⟨rfl, hxn, hxs⟩ | ⟨rfl, rfl, rfl, rfl⟩
      · -- the sum is one
        have GX := hid hxn.1
        have HXS := hid hxs
        have KS := hid (cmpZ_self A)
        clear hxs
        obtain ⟨kg, kc, ks, ke, hk⟩ := hxn.sum hnb
        have hkw : A + B + -B = A := by omega
        rw [hkw] at hk
        clear hkw
        obtain ⟨V, hV⟩ : ∃ V, V = w' := ⟨_, rfl⟩
        rw [← hV] at N10 ⊢
        clear hV HS h3r hbc hB
        go_upto_region 9 with fail
        go_cut [13, 14] (fun p e wx => ∃ m : Nat, p = .pointer (some ⟨m, 0, none⟩) ∧ e = .int .i64 ke ∧ Now w wx ((m, kg, kc, ks) :: [(n, false, 0, sa), (w6.heap.size, xg, xc, xs), (w4.heap.size, xg, xc, xs), (w.heap.size + 1 + 1, gc, cc, sc), (w.heap.size + 1, gb, cb, sb), (w.heap.size, ga, ca, sa)]))
        case first =>
          have HS : Hid (∀ w' : World, Below V.heap.size V w' → w'.cell? ⟨n, 0, none⟩ = some (.bool false) ∧ w'.cell? ⟨n, 1, none⟩ = some (.int .i64 0) ∧ w'.cell? ⟨n, 2, none⟩ = some (.int .i64 sa) ∧ w'.cell? ⟨w6.heap.size, 0, none⟩ = some (.bool xg) ∧ w'.cell? ⟨w6.heap.size, 1, none⟩ = some (.int .i64 xc) ∧ w'.cell? ⟨w6.heap.size, 2, none⟩ = some (.int .i64 xs) ∧ w'.cell? ⟨w4.heap.size, 0, none⟩ = some (.bool xg) ∧ w'.cell? ⟨w4.heap.size, 1, none⟩ = some (.int .i64 xc) ∧ w'.cell? ⟨w4.heap.size, 2, none⟩ = some (.int .i64 xs) ∧ w'.cell? ⟨w.heap.size + 1 + 1, 0, none⟩ = some (.bool gc) ∧ w'.cell? ⟨w.heap.size + 1 + 1, 1, none⟩ = some (.int .i64 cc) ∧ w'.cell? ⟨w.heap.size + 1 + 1, 2, none⟩ = some (.int .i64 sc) ∧ w'.cell? ⟨w.heap.size + 1, 0, none⟩ = some (.bool gb) ∧ w'.cell? ⟨w.heap.size + 1, 1, none⟩ = some (.int .i64 cb) ∧ w'.cell? ⟨w.heap.size + 1, 2, none⟩ = some (.int .i64 sb) ∧ w'.cell? ⟨w.heap.size, 0, none⟩ = some (.bool ga) ∧ w'.cell? ⟨w.heap.size, 1, none⟩ = some (.int .i64 ca) ∧ w'.cell? ⟨w.heap.size, 2, none⟩ = some (.int .i64 sa)) := fun w' hb => by
            obtain ⟨_, ⟨_, p0, q0, r0⟩, ⟨_, p1, q1, r1⟩, ⟨_, p2, q2, r2⟩, ⟨_, p3, q3, r3⟩, ⟨_, p4, q4, r4⟩, ⟨_, p5, q5, r5⟩, _⟩ := N10.out.below hb
            exact ⟨p0, q0, r0, p1, q1, r1, p2, q2, r2, p3, q3, r3, p4, q4, r4, p5, q5, r5⟩
          have h3r : Below V.heap.size V V.drew := (Below.refl _ _).drew
          go_region_held3 (fun w' => w'.cell? ⟨n, 0, none⟩ = some (.bool false) ∧ w'.cell? ⟨n, 1, none⟩ = some (.int .i64 0) ∧ w'.cell? ⟨n, 2, none⟩ = some (.int .i64 sa) ∧ w'.cell? ⟨w6.heap.size, 0, none⟩ = some (.bool xg) ∧ w'.cell? ⟨w6.heap.size, 1, none⟩ = some (.int .i64 xc) ∧ w'.cell? ⟨w6.heap.size, 2, none⟩ = some (.int .i64 xs) ∧ w'.cell? ⟨w4.heap.size, 0, none⟩ = some (.bool xg) ∧ w'.cell? ⟨w4.heap.size, 1, none⟩ = some (.int .i64 xc) ∧ w'.cell? ⟨w4.heap.size, 2, none⟩ = some (.int .i64 xs) ∧ w'.cell? ⟨w.heap.size + 1 + 1, 0, none⟩ = some (.bool gc) ∧ w'.cell? ⟨w.heap.size + 1 + 1, 1, none⟩ = some (.int .i64 cc) ∧ w'.cell? ⟨w.heap.size + 1 + 1, 2, none⟩ = some (.int .i64 sc) ∧ w'.cell? ⟨w.heap.size + 1, 0, none⟩ = some (.bool gb) ∧ w'.cell? ⟨w.heap.size + 1, 1, none⟩ = some (.int .i64 cb) ∧ w'.cell? ⟨w.heap.size + 1, 2, none⟩ = some (.int .i64 sb) ∧ w'.cell? ⟨w.heap.size, 0, none⟩ = some (.bool ga) ∧ w'.cell? ⟨w.heap.size, 1, none⟩ = some (.int .i64 ca) ∧ w'.cell? ⟨w.heap.size, 2, none⟩ = some (.int .i64 sa)) (first | with_reducible exact HS.out _ (by with_reducible assumption) | with_reducible exact HS.out _ (below_alloc_at (by with_reducible assumption) _) | ((refine HS.out _ ?_); go_grown; done))
            (first | (go_at_call 16; ((with_reducible refine (neg_any _ _ _ _).mono ?_)); rintro e w' ⟨rfl, hbx⟩; have hB : Below V.heap.size V w' := (by refine below_at hbx ?_; go_grown; done); obtain ⟨hcc, hff⟩ := bcell hbx; have hss := hB.size; have hst := hbx.size; (try simp only [World.size_alloc, World.size_drew] at hst); (try have hsu : V.heap.size < w'.heap.size := (by omega))) | (go_at_call 21; ((with_reducible refine (add_sum hk _).mono ?_)); rintro e w' ⟨rfl, hbx⟩; have hB : Below V.heap.size V w' := (by refine below_at hbx ?_; go_grown; done); obtain ⟨hcc, hff⟩ := bcell hbx; have hss := hB.size; have hst := hbx.size; (try simp only [World.size_alloc] at hst); (try have hsu : V.heap.size < w'.heap.size := (by omega))))
          all_goals
            go_wp2_with fail
            go_meet
          all_goals refine ⟨_, rfl, rfl, Now.more N10.out ?_ ?_⟩
          all_goals first | (go_grown; done) | skip
          all_goals first | exact BoxNum.new _ _ _ _ _ | skip
          all_goals refine BoxNum.set3 (g0 := false) (c0 := 0) (s0 := 0) ⟨?_, ?_, ?_, ?_⟩ _ _ _
          all_goals first | omega | (simp [go_sem, *]; done) | (simp [go_sem, *]; omega)
        case rest =>
          obtain ⟨m, rfl, rfl, N11⟩ := hcut
          have N11 := hid N11
          clear N10
          go_upto_region 10 with fail
          go_cut [110] (fun t wx => t = .bool false ∧ Now w wx [(n, false, 0, sa), (w6.heap.size, xg, xc, xs), (w4.heap.size, xg, xc, xs), (w.heap.size + 1 + 1, gc, cc, sc), (w.heap.size + 1, gb, cb, sb), (w.heap.size, ga, ca, sa)])
          case first =>
            rcases hk.2 with ⟨rfl, hkn, hks⟩ | ⟨rfl, rfl, rfl, rfl⟩
            · clear hks
              obtain ⟨bb, ⟨z0, x0, y0, t0⟩, _, _, ⟨z1, x1, y1, t1⟩, _, _, ⟨z2, x2, y2, t2⟩, _⟩ := N11.out
              go_wp2_with fail
              with_reducible refine (cmp_num hkn ha _).mono ?_
              rintro e w12 ⟨rfl, h12⟩
              rw [KS.out]
              have N12 := hid (N11.out.below h12)
              clear bb z0 x0 y0 t0 z1 x1 y1 t1 z2 x2 y2 t2 N11 h12
              obtain ⟨bb, _, _, _, ⟨z1, x1, y1, t1⟩, _⟩ := N12.out
              go_wp2_with fail
              with_reducible refine (good_any _ _ _ _).mono ?_
              rintro e w13 ⟨rfl, h13⟩
              rw [GX.out]
              have N13 := hid (N12.out.below h13)
              clear bb z1 x1 y1 t1 N12 h13
              go_wp2_with fail
              go_meet
              exact ⟨rfl, N13.out.1, N13.out.2.2⟩
            · obtain ⟨bb, _, _, _, ⟨z1, x1, y1, t1⟩, _⟩ := N11.out
              go_wp2_with fail
              with_reducible refine (good_any _ _ _ _).mono ?_
              rintro e w13 ⟨rfl, h13⟩
              rw [GX.out]
              have N13 := hid (N11.out.below h13)
              clear bb z1 x1 y1 t1 N11 h13
              go_wp2_with fail
              go_meet
              exact ⟨rfl, N13.out.1, N13.out.2.2⟩
          case rest =>
            obtain ⟨rfl, N12⟩ := hcut
            have N12 := hid N12
            clear N11
            obtain ⟨ug, uc, us, ue, hu⟩ := hxn.sum hc
            obtain ⟨vg, vc, vs, ve, hv⟩ := hb.sum hc
            obtain ⟨bb, _, _, ⟨z0, x0, y0, t0⟩, ⟨z1, x1, y1, t1⟩, ⟨z2, x2, y2, t2⟩, ⟨z3, x3, y3, t3⟩, _⟩ := N12.out
            go_wp2_with fail
            with_reducible refine (add_sum hu _).mono ?_
            rintro e w13 ⟨rfl, h13⟩
            have N13 := hid ((N12.out.below h13).box ug uc us 24)
            clear bb z0 x0 y0 t0 z1 x1 y1 t1 z2 x2 y2 t2 z3 x3 y3 t3 N12 h13
            obtain ⟨bb, ⟨z4, x4, y4, t4⟩, _, _, ⟨z0, x0, y0, t0⟩, ⟨z1, x1, y1, t1⟩, ⟨z2, x2, y2, t2⟩, ⟨z3, x3, y3, t3⟩, _⟩ := N13.out
            go_wp2_with fail
            with_reducible refine (add_sum hv _).mono ?_
            rintro e w14 ⟨rfl, h14⟩
            have N14 := hid ((N13.out.below h14).box vg vc vs 24)
            clear bb z0 x0 y0 t0 z1 x1 y1 t1 z2 x2 y2 t2 z3 x3 y3 t3 z4 x4 y4 t4 N13 h14
            obtain ⟨bb, ⟨z5, x5, y5, t5⟩, ⟨z4, x4, y4, t4⟩, _, _, ⟨z0, x0, y0, t0⟩, ⟨z1, x1, y1, t1⟩, ⟨z2, x2, y2, t2⟩, ⟨z3, x3, y3, t3⟩, _⟩ := N14.out
            rcases hv.2 with ⟨rfl, hvn, hvs⟩ | ⟨rfl, rfl, rfl, rfl⟩
            · obtain ⟨wg, wc', ws, we, hw⟩ := ha.sum hvn
              have HVS := hid hvs
              clear hvs
              go_wp2_with fail
              with_reducible refine (add_sum hw _).mono ?_
              rintro e w15 ⟨rfl, h15⟩
              have N15 := hid ((N14.out.below h15).box wg wc' ws 24)
              clear bb z0 x0 y0 t0 z1 x1 y1 t1 z2 x2 y2 t2 z3 x3 y3 t3 z4 x4 y4 t4 z5 x5 y5 t5 N14 h15
              rcases hu.2 with ⟨rfl, hun, hus⟩ | ⟨rfl, rfl, rfl, rfl⟩
              · rcases hw.2 with ⟨rfl, hwn, hws⟩ | ⟨rfl, rfl, rfl, rfl⟩
                · have hs : us = ws := by have := HXS.out; have := HVS.out; omega
                  clear hus hws
                  subst hs
                  obtain ⟨rfl, rfl⟩ := hun.same hwn rfl (by omega)
                  obtain ⟨bb, ⟨z6, x6, y6, t6⟩, ⟨z5, x5, y5, t5⟩, ⟨z4, x4, y4, t4⟩, _⟩ := N15.out
                  go_wp2_with fail
                  go_meet
                  exact ⟨N15.out.1, N15.out.2.2.2.2.2.2.2⟩
                · clear hus
                  go_wp2_with fail
                  go_meet
                  exact ⟨N15.out.1, N15.out.2.2.2.2.2.2.2⟩
              · go_wp2_with fail
                go_meet
                exact ⟨N15.out.1, N15.out.2.2.2.2.2.2.2⟩
            · go_wp2_with fail
              with_reducible refine (add_any _ _ _ _ _ _ _).mono ?_
              rintro e w15 ⟨rfl, h15⟩
              have N15 := hid ((N14.out.below h15).alloc (.cells #[.bool (addN ga ca sa false 0 0).1, .int .i64 (addN ga ca sa false 0 0).2.1, .int .i64 (addN ga ca sa false 0 0).2.2.1] 24))
              clear bb z0 x0 y0 t0 z1 x1 y1 t1 z2 x2 y2 t2 z3 x3 y3 t3 z4 x4 y4 t4 z5 x5 y5 t5 N14 h15
              generalize addN ga ca sa false 0 0 = q at N15 ⊢
              rcases hu.2 with ⟨rfl, hun, hus⟩ | ⟨rfl, rfl, rfl, rfl⟩
              · clear hus
                go_wp2_with fail
                go_meet
                exact ⟨N15.out.1, N15.out.2.2.2.2.2.2⟩
              · go_wp2_with fail
                go_meet
                exact ⟨N15.out.1, N15.out.2.2.2.2.2.2⟩
      · -- the sum is too great
        go_wp2_with fail
        go_meet
        exact ⟨N10.out.1, N10.out.2.2.2.2⟩
    case rest =>
      have N16 := hid hcut
      obtain ⟨pg, pc, ps, pe, hp⟩ := ha.sum hc
      obtain ⟨qg, qc, qs, qe, hq⟩ := hb.sum hc
      obtain ⟨bb, ⟨z1, x1, y1, t1⟩, ⟨z2, x2, y2, t2⟩, ⟨z3, x3, y3, t3⟩, _⟩ := N16.out
      go_wp2_with fail
      with_reducible refine (add_sum hp _).mono ?_
      rintro e w17 ⟨rfl, h17⟩
      have N17 := hid ((N16.out.below h17).box pg pc ps 24)
      clear bb z1 x1 y1 t1 z2 x2 y2 t2 z3 x3 y3 t3 N16 h17
      obtain ⟨bb, ⟨z0, x0, y0, t0⟩, ⟨z1, x1, y1, t1⟩, ⟨z2, x2, y2, t2⟩, ⟨z3, x3, y3, t3⟩, _⟩ := N17.out
      go_wp2_with fail
      with_reducible refine (add_sum hq _).mono ?_
      rintro e w18 ⟨rfl, h18⟩
      have N18 := hid ((N17.out.below h18).box qg qc qs 24)
      clear bb z0 x0 y0 t0 z1 x1 y1 t1 z2 x2 y2 t2 z3 x3 y3 t3 N17 h18
      obtain ⟨U, hU⟩ : ∃ U, U = w18.alloc (.cells #[.bool qg, .int .i64 qc, .int .i64 qs] 24) := ⟨_, rfl⟩
      go_upto_region 19 with fail
      rw [← hU] at N18 ⊢
      clear hU HS h3r
      have HT2 := hid (HT.out.below N18.out.1)
      have hUb := N18.out.1
      have hUz := hUb.size
      have KADD := hid (cmpZ_add A B C)
      obtain ⟨_, ⟨_, p0, q0, r0⟩, ⟨_, p1, q1, r1⟩, ⟨_, p2, q2, r2⟩, ⟨_, p3, q3, r3⟩, ⟨_, p4, q4, r4⟩, _⟩ := N18.out
      clear p2 q2 r2
      replace p0 := cell_regrown p0
      replace q0 := cell_regrown q0
      replace r0 := cell_regrown r0
      replace p1 := cell_regrown p1
      replace q1 := cell_regrown q1
      replace r1 := cell_regrown r1
      replace p3 := cell_regrown p3
      replace q3 := cell_regrown q3
      replace r3 := cell_regrown r3
      replace p4 := cell_regrown p4
      replace q4 := cell_regrown q4
      replace r4 := cell_regrown r4
      have cW := hid (fun d os => Calls.regrown_of (wakes_any _ (HT2.out.below (below_regrown U d os))))
      have cA := hid (fun d os => Calls.regrown_of (cmp_num ha hb (Sort.grow (redrawn U d) os)))
      clear hcut
      rcases hp.2 with ⟨rfl, hpn, hps⟩ | ⟨rfl, rfl, rfl, rfl⟩
      · rcases hq.2 with ⟨rfl, hqn, hqs⟩ | ⟨rfl, rfl, rfl, rfl⟩
        · have hB := fun d os => cmp_num hpn hqn (Sort.grow (redrawn U d) os)
          rw [KADD.out] at hB
          have cB := hid (fun d os => Calls.regrown_of (hB d os))
          clear hps hqs hp hq hB
          refine wp_region_quiet_below (by kernel_rfl) (by kernel_rfl) ?_
          repeat (quiet_step (first | (go_at_call 9; exact cW.out _ _) | (go_at_call 23; first | (with_reducible exact cA.out _ _) | (with_reducible exact cB.out _ _))))
          refine wpQuiet_nil ?_
          intro _ hw'
          obtain ⟨⟨dq, osq⟩, hw''⟩ := hw'
          subst hw''
          go_wp2
          go_returns
          exact ⟨rfl, hUb.trans ((below_regrown U dq osq).mono hUz)⟩
        · clear hps hp hq
          refine wp_region_quiet_below (by kernel_rfl) (by kernel_rfl) ?_
          repeat (quiet_step ((go_at_call 9; exact cW.out _ _)))
          refine wpQuiet_nil ?_
          intro _ hw'
          obtain ⟨⟨dq, osq⟩, hw''⟩ := hw'
          subst hw''
          go_wp2
          go_returns
          exact ⟨rfl, hUb.trans ((below_regrown U dq osq).mono hUz)⟩
      · clear hp hq
        refine wp_region_quiet_below (by kernel_rfl) (by kernel_rfl) ?_
        repeat (quiet_step ((go_at_call 9; exact cW.out _ _)))
        refine wpQuiet_nil ?_
        intro _ hw'
        obtain ⟨⟨dq, osq⟩, hw''⟩ := hw'
        subst hw''
        go_wp2
        go_returns
        exact ⟨rfl, hUb.trans ((below_regrown U dq osq).mono hUz)⟩

theorem exact_any (ga gb gc : Bool) (ca cb cc sa sb sc : Int) (w : World) (ht : Tab w) :
    Calls Tryd.prog 7 #[agg ga ca sa, agg gb cb sb, agg gc cc sc] w fun e w' => e = .returned (.bool true) ∧ Below w.heap.size w w' := by
  cases hA : goodB ga ca sa
  · exact exact_bad ga gb gc ca cb cc sa sb sc w ht (.inl hA)
  · cases hB : goodB gb cb sb
    · exact exact_bad ga gb gc ca cb cc sa sb sc w ht (.inr (.inl hB))
    · cases hC : goodB gc cc sc
      · exact exact_bad ga gb gc ca cb cc sa sb sc w ht (.inr (.inr hC))
      · exact exact_good ga gb gc ca cb cc sa sb sc _ _ _ w ht ⟨hA, rfl⟩ ⟨hB, rfl⟩ ⟨hC, rfl⟩
end Go.Proofs.YtfiifppmpehncaaDoor
