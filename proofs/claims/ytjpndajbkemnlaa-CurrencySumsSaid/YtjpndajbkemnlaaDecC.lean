/-
  The contracts of package decimal, third part: Cmp, Add.
-/
import Derived.Test.YtjpndajbkemnlaaDecB
import Derived.Deep.RegionHeld3
namespace Go.Proofs.Ytjpndajbkemnlaa
open Go.RowKit

theorem below_at {a w w' : World} (hb : Below w.heap.size w w') (h : Below a.heap.size a w) : Below a.heap.size a w' := h.trans (hb.mono h.size)
theorem below_more {a w w' : World} {R : Prop} (hb : Below w.heap.size w w') (h : Below a.heap.size a w ∧ R) : Below a.heap.size a w' :=
  h.1.trans (hb.mono h.1.size)
theorem cell_far3 {w : World} {a : Addr} {x : Value} {r : Nat} (hr : a.block ≠ r) (u0 u1 u2 : Value) (h : w.cell? a = some x) : (((w.setCell ⟨r, 0, none⟩ u0).setCell ⟨r, 1, none⟩ u1).setCell ⟨r, 2, none⟩ u2).cell? a = some x := by
  rw [World.cell?_setCell_other _ _ _ _ (fun e => hr (by rw [← e])), World.cell?_setCell_other _ _ _ _ (fun e => hr (by rw [← e])), World.cell?_setCell_other _ _ _ _ (fun e => hr (by rw [← e]))]
  exact h

set_option maxHeartbeats 1000000 in
theorem add_good (g g' : Bool) (c c' s s' : Int) (w : World) (m : Int) (zg : Bool) (zc zs ze : Int) (hm : m = max s s') (ha : goodB g c s = true) (hb : goodB g' c' s' = true)
    (hv : ∀ w' : World, Calls Try.prog 30 #[.int .i64 (atScale g c s m + atScale g' c' s' m), .int .i64 m] w' fun e w2 => e = .returned (.tuple #[.agg #[.bool zg, .int .i64 zc, .int .i64 zs], .int .i64 ze]) ∧ Below w'.heap.size w' w2) :
    Calls Try.prog 16 #[.agg #[.bool g, .int .i64 c, .int .i64 s], .agg #[.bool g', .int .i64 c', .int .i64 s']] w fun e w' => e = .returned (.tuple #[.agg #[.bool zg, .int .i64 zc, .int .i64 zs], .int .i64 ze]) ∧ Below w.heap.size w w' := by
  have pa := hid (goodB_parts ha)
  have pb := hid (goodB_parts hb)
  have HA := hid ha
  have HB := hid hb
  have HV := hid hv
  have hsum : IntKind.i64.wrap (atScale g c s m + atScale g' c' s' m) = atScale g c s m + atScale g' c' s' m := by
    have := atScale_bd g c s m pa.out.1
    have := atScale_bd g' c' s' m pb.out.1
    exact IntWalk.i64_in _ (by omega)
  have Hsum := hid hsum
  have HM := hid hm
  clear ha hb hv hsum hm
  go_enter Try.func16, Try.ntmps16
  go_wp2_with fail
  refine (good_any _ _ _ _).mono ?_
  rintro e w1 ⟨rfl, h1⟩
  rw [HA.out]
  have b1 : Below w.heap.size w w1 := (below3 w _ _ _).trans (h1.mono (by simp; omega))
  have HA1 := hid (((BoxNum.new w g c s 23).alloc (.cells #[.bool g', .int .i64 c', .int .i64 s'] 23)).alloc (.cells #[.bool false, .int .i64 0, .int .i64 0] 23) |>.below h1)
  have B1 := ((BoxNum.new (w.alloc (.cells #[.bool g, .int .i64 c, .int .i64 s] 23)) g' c' s' 23).alloc (.cells #[.bool false, .int .i64 0, .int .i64 0] 23)).below h1
  rw [World.size_alloc] at B1
  have HB1 := hid B1
  have hr1 : w.heap.size + 1 + 1 < w1.heap.size := by have := h1.size; simp at this; omega
  have hx1 : ∀ i, i < 3 → ∃ u, w1.cell? ⟨w.heap.size + 1 + 1, i, none⟩ = some u ∧ w1.frozen? ⟨w.heap.size + 1 + 1, i, none⟩ = false := by
    intro i hi
    have e1 := h1.cell (p := ⟨w.heap.size + 1 + 1, i, none⟩) (by simp)
    have e2 := h1.frozen (p := ⟨w.heap.size + 1 + 1, i, none⟩) (by simp)
    rw [e1, e2]
    match i, hi with
    | 0, _ => exact ⟨.bool false, by simp [go_sem], by simp [go_sem]⟩
    | 1, _ => exact ⟨.int .i64 0, by simp [go_sem], by simp [go_sem]⟩
    | 2, _ => exact ⟨.int .i64 0, by simp [go_sem], by simp [go_sem]⟩
  have HX1 := hid hx1
  clear B1 hx1
  obtain ⟨hz1, a0, a1, a2⟩ := HA1.out
  obtain ⟨hz2, x0, x1, x2⟩ := HB1.out
  go_wp2_with fail
  refine (good_any _ _ _ _).mono ?_
  rintro e w2 ⟨rfl, h2⟩
  rw [HB.out]
  have b2 := b1.trans (h2.mono (by omega))
  have HA2 := hid (HA1.out.below h2)
  have HB2 := hid (HB1.out.below h2)
  clear a0 a1 a2 x0 x1 x2 HA1 HB1
  obtain ⟨hz1, a0, a1, a2⟩ := HA2.out
  obtain ⟨hz2, x0, x1, x2⟩ := HB2.out
  go_wp2_with fail
  refine (together_any _ _ _ _ _ _ _).mono ?_
  rintro e w3 ⟨n, rfl, hn, hn3, hnc, h3⟩
  rw [← HM.out] at hnc
  have b3 := b2.trans (h3.mono (by omega))
  have hz12 := h2.size
  have h13 := h2.trans (h3.mono h2.size)
  have HA3 := hid (HA2.out.below h3)
  have HB3 := hid (HB2.out.below h3)
  clear a0 a1 a2 x0 x1 x2 HA2 HB2
  obtain ⟨hz1, a0, a1, a2⟩ := HA3.out
  obtain ⟨hz2, x0, x1, x2⟩ := HB3.out
  have hz3 := b3.size
  obtain ⟨q0, q1, q2, q3, q4⟩ := pa.out
  obtain ⟨r0, r1, r2, r3, r4⟩ := pb.out
  clear q4 r4
  have HS : Hid (∀ w' : World, Below w3.heap.size w3 w' → w'.cell? ⟨w.heap.size, 0, none⟩ = some (.bool g) ∧ w'.cell? ⟨w.heap.size, 1, none⟩ = some (.int .i64 c) ∧ w'.cell? ⟨w.heap.size, 2, none⟩ = some (.int .i64 s) ∧ w'.cell? ⟨w.heap.size + 1, 0, none⟩ = some (.bool g') ∧ w'.cell? ⟨w.heap.size + 1, 1, none⟩ = some (.int .i64 c') ∧ w'.cell? ⟨w.heap.size + 1, 2, none⟩ = some (.int .i64 s') ∧ w'.cell? ⟨n, 0, none⟩ = some (.int .i64 (m))) :=
    fun w' hb => ⟨(HA3.out.below hb).2.1, (HA3.out.below hb).2.2.1, (HA3.out.below hb).2.2.2, (HB3.out.below hb).2.1, (HB3.out.below hb).2.2.1, (HB3.out.below hb).2.2.2, (hb.cell (p := ⟨n, 0, none⟩) hn3).trans hnc⟩
  have HT : Hid (∀ (W : World) (u0 u1 u2 : Value), (W.cell? ⟨w.heap.size, 0, none⟩ = some (.bool g) ∧ W.cell? ⟨w.heap.size, 1, none⟩ = some (.int .i64 c) ∧ W.cell? ⟨w.heap.size, 2, none⟩ = some (.int .i64 s) ∧ W.cell? ⟨w.heap.size + 1, 0, none⟩ = some (.bool g') ∧ W.cell? ⟨w.heap.size + 1, 1, none⟩ = some (.int .i64 c') ∧ W.cell? ⟨w.heap.size + 1, 2, none⟩ = some (.int .i64 s') ∧ W.cell? ⟨n, 0, none⟩ = some (.int .i64 (m))) → (((W.setCell ⟨w.heap.size + 1 + 1, 0, none⟩ u0).setCell ⟨w.heap.size + 1 + 1, 1, none⟩ u1).setCell ⟨w.heap.size + 1 + 1, 2, none⟩ u2).cell? ⟨w.heap.size, 0, none⟩ = some (.bool g) ∧ (((W.setCell ⟨w.heap.size + 1 + 1, 0, none⟩ u0).setCell ⟨w.heap.size + 1 + 1, 1, none⟩ u1).setCell ⟨w.heap.size + 1 + 1, 2, none⟩ u2).cell? ⟨w.heap.size, 1, none⟩ = some (.int .i64 c) ∧ (((W.setCell ⟨w.heap.size + 1 + 1, 0, none⟩ u0).setCell ⟨w.heap.size + 1 + 1, 1, none⟩ u1).setCell ⟨w.heap.size + 1 + 1, 2, none⟩ u2).cell? ⟨w.heap.size, 2, none⟩ = some (.int .i64 s) ∧ (((W.setCell ⟨w.heap.size + 1 + 1, 0, none⟩ u0).setCell ⟨w.heap.size + 1 + 1, 1, none⟩ u1).setCell ⟨w.heap.size + 1 + 1, 2, none⟩ u2).cell? ⟨w.heap.size + 1, 0, none⟩ = some (.bool g') ∧ (((W.setCell ⟨w.heap.size + 1 + 1, 0, none⟩ u0).setCell ⟨w.heap.size + 1 + 1, 1, none⟩ u1).setCell ⟨w.heap.size + 1 + 1, 2, none⟩ u2).cell? ⟨w.heap.size + 1, 1, none⟩ = some (.int .i64 c') ∧ (((W.setCell ⟨w.heap.size + 1 + 1, 0, none⟩ u0).setCell ⟨w.heap.size + 1 + 1, 1, none⟩ u1).setCell ⟨w.heap.size + 1 + 1, 2, none⟩ u2).cell? ⟨w.heap.size + 1, 2, none⟩ = some (.int .i64 s') ∧ (((W.setCell ⟨w.heap.size + 1 + 1, 0, none⟩ u0).setCell ⟨w.heap.size + 1 + 1, 1, none⟩ u1).setCell ⟨w.heap.size + 1 + 1, 2, none⟩ u2).cell? ⟨n, 0, none⟩ = some (.int .i64 (m))) :=
    fun W u0 u1 u2 h => ⟨cell_far3 (by dsimp only; omega) _ _ _ h.1, cell_far3 (by dsimp only; omega) _ _ _ h.2.1, cell_far3 (by dsimp only; omega) _ _ _ h.2.2.1, cell_far3 (by dsimp only; omega) _ _ _ h.2.2.2.1, cell_far3 (by dsimp only; omega) _ _ _ h.2.2.2.2.1, cell_far3 (by dsimp only; omega) _ _ _ h.2.2.2.2.2.1, cell_far3 (by dsimp only; omega) _ _ _ h.2.2.2.2.2.2⟩
  have HX : Hid (∀ w' : World, Below w3.heap.size w3 w' → (∀ i, i < 3 → ∃ u, w'.cell? ⟨w.heap.size + 1 + 1, i, none⟩ = some u ∧ w'.frozen? ⟨w.heap.size + 1 + 1, i, none⟩ = false)) := by
    intro w' hb i hi
    have hb' := h13.trans (hb.mono h13.size)
    rw [hb'.cell (p := ⟨w.heap.size + 1 + 1, i, none⟩) hr1, hb'.frozen (p := ⟨w.heap.size + 1 + 1, i, none⟩) hr1]
    exact HX1.out i hi
  have hmb : s ≤ m ∧ s' ≤ m ∧ m ≤ 5 := by have := HM.out; omega
  have Hmax : Hid ((if s < s' then s' else s) = m) := by have := HM.out; show _ = _; omega
  obtain ⟨hm1, hm2, hm3⟩ := hmb
  have h3r : Below w3.heap.size w3 w3.drew := (Below.refl _ _).drew
  by_cases hss : s < s'
  · obtain rfl : m = s' := by have := HM.out; omega
    go_wp2_with fail
    go_region_held3 (fun w' => w'.cell? ⟨w.heap.size, 0, none⟩ = some (.bool g) ∧ w'.cell? ⟨w.heap.size, 1, none⟩ = some (.int .i64 c) ∧ w'.cell? ⟨w.heap.size, 2, none⟩ = some (.int .i64 s) ∧ w'.cell? ⟨w.heap.size + 1, 0, none⟩ = some (.bool g') ∧ w'.cell? ⟨w.heap.size + 1, 1, none⟩ = some (.int .i64 c') ∧ w'.cell? ⟨w.heap.size + 1, 2, none⟩ = some (.int .i64 m) ∧ w'.cell? ⟨n, 0, none⟩ = some (.int .i64 m)) (first | with_reducible exact HS.out _ (by with_reducible assumption) | with_reducible exact HT.out _ _ _ _ (by with_reducible assumption))
      (first | (go_at_call_of 42 (Value.int IntKind.i64 c); refine (together1_any g c s m n _ q0 q1 q2 hm1 hm3 ?_).mono ?_; (simp [*]); rintro e w' ⟨rfl, hbx⟩; have hB := below_at hbx (by with_reducible assumption)) | (go_at_call_of 42 (Value.int IntKind.i64 c'); refine (together1_any g' c' m m n _ r0 r1 r2 hm2 hm3 ?_).mono ?_; (simp [*]); rintro e w' ⟨rfl, hbx⟩; have hB := below_at hbx (by with_reducible assumption)) | (go_at_call 30; ((rw [Hsum.out]); (try rw [Hmax.out])); ((with_reducible refine (HV.out _).mono ?_)); rintro e w' ⟨rfl, hbx⟩; have hB := below_at hbx (by with_reducible assumption); have hBB := b3.trans (hB.mono hz3); obtain ⟨u0, k0, f0⟩ := HX.out _ hB 0 (by omega); obtain ⟨u1, k1, f1⟩ := HX.out _ hB 1 (by omega); obtain ⟨u2, k2, f2⟩ := HX.out _ hB 2 (by omega)))
    all_goals go_wp2
    all_goals refine bodyPost_ret (v := .tuple #[.agg #[.bool zg, .int .i64 zc, .int .i64 zs], .int .i64 ze]) ?_ rfl ⟨rfl, ?_⟩
    all_goals first | go_grown | skip
    all_goals simp [results, Try.results16, go_sem, *]
  · obtain rfl : m = s := by have := HM.out; omega
    go_wp2_with fail
    go_region_held3 (fun w' => w'.cell? ⟨w.heap.size, 0, none⟩ = some (.bool g) ∧ w'.cell? ⟨w.heap.size, 1, none⟩ = some (.int .i64 c) ∧ w'.cell? ⟨w.heap.size, 2, none⟩ = some (.int .i64 m) ∧ w'.cell? ⟨w.heap.size + 1, 0, none⟩ = some (.bool g') ∧ w'.cell? ⟨w.heap.size + 1, 1, none⟩ = some (.int .i64 c') ∧ w'.cell? ⟨w.heap.size + 1, 2, none⟩ = some (.int .i64 s') ∧ w'.cell? ⟨n, 0, none⟩ = some (.int .i64 m)) (first | with_reducible exact HS.out _ (by with_reducible assumption) | with_reducible exact HT.out _ _ _ _ (by with_reducible assumption))
      (first | (go_at_call_of 42 (Value.int IntKind.i64 c); refine (together1_any g c m m n _ q0 q1 q2 hm1 hm3 ?_).mono ?_; (simp [*]); rintro e w' ⟨rfl, hbx⟩; have hB := below_at hbx (by with_reducible assumption)) | (go_at_call_of 42 (Value.int IntKind.i64 c'); refine (together1_any g' c' s' m n _ r0 r1 r2 hm2 hm3 ?_).mono ?_; (simp [*]); rintro e w' ⟨rfl, hbx⟩; have hB := below_at hbx (by with_reducible assumption)) | (go_at_call 30; ((rw [Hsum.out]); (try rw [Hmax.out])); ((with_reducible refine (HV.out _).mono ?_)); rintro e w' ⟨rfl, hbx⟩; have hB := below_at hbx (by with_reducible assumption); have hBB := b3.trans (hB.mono hz3); obtain ⟨u0, k0, f0⟩ := HX.out _ hB 0 (by omega); obtain ⟨u1, k1, f1⟩ := HX.out _ hB 1 (by omega); obtain ⟨u2, k2, f2⟩ := HX.out _ hB 2 (by omega)))
    all_goals go_wp2
    all_goals refine bodyPost_ret (v := .tuple #[.agg #[.bool zg, .int .i64 zc, .int .i64 zs], .int .i64 ze]) ?_ rfl ⟨rfl, ?_⟩
    all_goals first | go_grown | skip
    all_goals simp [results, Try.results16, go_sem, *]
end Go.Proofs.Ytjpndajbkemnlaa
