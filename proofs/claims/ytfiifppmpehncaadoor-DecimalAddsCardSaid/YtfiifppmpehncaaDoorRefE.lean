/-
  The document's own answers: size, Cmp.
-/
import Derived.Test.YtfiifppmpehncaaDoorRefD
import Derived.Test.YtfiifppmpehncaaDoorNum
import Derived.Deep.RegionHeld3
import Derived.Deep.RegionWith
import Derived.Deep.DeepCutAuto
namespace Go.Proofs.YtfiifppmpehncaaDoor
open Go.RowKit Go.Shelf

/-- Block g holds the 30 last digits of W. -/
def HoldsD (w : World) (g W : Nat) : Prop := g < w.heap.size ∧ ∀ i, i < 30 → w.cell? ⟨g, i, none⟩ = some (.int .i64 ((sh W i % 10 : Nat) : Int))
theorem HoldsD.below {w w' : World} {g W : Nat} (h : HoldsD w g W) (hb : Below w.heap.size w w') : HoldsD w' g W :=
  ⟨Nat.lt_of_lt_of_le h.1 hb.size, fun k hk => (hb.cell (p := ⟨g, k, none⟩) h.1).trans (h.2 k hk)⟩
theorem holdsD_of {w : World} {base : Nat} {v : Value} {W : Nat} (h : w.ownsRow base 2 1 v 30 (fd W 30)) : ∃ g cap, v = .slice (some ⟨g, 0, none⟩) 30 cap ∧ base ≤ g ∧ HoldsD w g W := by
  have hc := h
  obtain ⟨_, ⟨_, hn⟩ | ⟨g, cap, cur, rfl, hg, hh, _⟩⟩ := h
  · omega
  · refine ⟨g, cap, rfl, hg, ?_, fun k hk => ?_⟩
    · exact (Array.getElem?_eq_some_iff.1 hh).1
    · have := hc.cells (g := g) rfl k _ (fd_get W 30 k hk)
      cases k <;> simpa [Addr.add] using this
theorem refAt_holds (g : Bool) (c s : Nat) (w : World) (hc : c < 1000000000000000000) (hs : s ≤ 5) :
    Calls Tryd.prog 34 #[.agg #[.bool g, .int .i64 c, .int .i64 s]] w fun e w' => ∃ ga cap, e = .returned (.slice (some ⟨ga, 0, none⟩) 30 cap) ∧ w.heap.size ≤ ga ∧ HoldsD w' ga (aw c s) ∧ Below w.heap.size w w' := by
  refine (refAt_any g c s w hc hs).mono ?_
  rintro e w' ⟨v, rfl, hown, hb⟩
  obtain ⟨ga, cap, rfl, hg, hh⟩ := holdsD_of hown
  exact ⟨ga, cap, rfl, by omega, hh, hb⟩

theorem sh_digits (W m : Nat) : sh W m = 10 * sh W (m + 1) + sh W m % 10 := by rw [sh_succ]; omega
theorem lt_of_sh {A B m : Nat} (h : sh A m < sh B m) : A < B := by
  by_cases h2 : A < B
  · exact h2
  · have : sh B m ≤ sh A m := Nat.div_le_div_right (by omega)
    omega
def SizeInv (w : World) (A B : Nat) (t : Value) (wr : World) : Prop := ∃ k : Nat, k ≤ 30 ∧ t = .int .i64 ((k : Int) - 1) ∧ sh A k = sh B k ∧ Below w.heap.size w wr

set_option maxRecDepth 100000 in
set_option maxHeartbeats 1600000 in
theorem refSize_any (A B ga gb ca cb : Nat) (w : World) (hA : A < 10 ^ 30) (hB : B < 10 ^ 30) (ha : HoldsD w ga A) (hb : HoldsD w gb B) :
    Calls Tryd.prog 35 #[.slice (some ⟨ga, 0, none⟩) 30 ca, .slice (some ⟨gb, 0, none⟩) 30 cb] w fun e w' => e = .returned (.int .i64 (cmpZ A B)) ∧ Below w.heap.size w w' := by
  have HI : Hid (SizeInv w A B (.int .i64 29) w) := by
    refine ⟨30, Nat.le_refl _, rfl, ?_, Below.refl _ _⟩
    rw [sh, sh, Nat.div_eq_of_lt hA, Nat.div_eq_of_lt hB]
  have HA := hid ha
  have HB := hid hb
  clear hA hB ha hb
  go_enter Tryd.func35, Tryd.ntmps35
  go_wp2
  go_loopw [5] (fun t wr => SizeInv w A B t wr) (fun t _ => (intOf t + 1).toNat)
  case atStart => exact HI.out
  case round =>
    clear HI
    obtain ⟨k, hk, rfl, he, hbel⟩ := hrel
    have HE := hid he
    clear he
    rcases k with _ | m
    · have e0 : Hid (sh A 0 = A ∧ sh B 0 = B) := ⟨sh_zero A, sh_zero B⟩
      rw [show ((0 : Nat) : Int) - 1 = -1 from rfl]
      go_wp2
      go_ret
      have h := HE.out
      rw [e0.out.1, e0.out.2] at h
      refine ⟨ret_int ?_, hbel⟩
      rw [h, cmpZ_self]
    · rw [show ((m + 1 : Nat) : Int) - 1 = (m : Int) by omega]
      have xa := (HA.out.below hbel).2 m (by omega)
      have xb := (HB.out.below hbel).2 m (by omega)
      have da := sh_digits A m
      have db := sh_digits B m
      rw [HE.out] at da
      obtain ⟨x, hx⟩ : ∃ x, x = sh A m % 10 := ⟨_, rfl⟩
      obtain ⟨y, hy⟩ : ∃ y, y = sh B m % 10 := ⟨_, rfl⟩
      rw [← hx] at xa da
      rw [← hy] at xb db
      have hx10 : x < 10 := by omega
      have hy10 : y < 10 := by omega
      have hm1 : (m : Int) < 30 := by omega
      have hm0 : 0 ≤ (m : Int) := by omega
      have HD := hid (And.intro da db)
      clear da db hx hy
      by_cases h1 : x < y
      · have hlt := hid (show A < B from lt_of_sh (m := m) (by have := HD.out; omega))
        go_wp2
        go_quiet (fail)
        go_wp2
        go_ret
        exact ⟨ret_int (cmpZ_lt (by have := hlt.out; omega)), below_drewN hbel _⟩
      · by_cases h2 : y < x
        · have hlt := hid (show B < A from lt_of_sh (m := m) (by have := HD.out; omega))
          go_wp2
          go_quiet (fail)
          go_wp2
          go_quiet (fail)
          go_wp2
          go_ret
          exact ⟨ret_int (cmpZ_gt (by have := hlt.out; omega) (by have := hlt.out; omega)), below_drewN (below_drewN hbel _) _⟩
        · have he2 := hid (show sh A m = sh B m by have := HD.out; omega)
          go_wp2
          go_quiet (fail)
          go_wp2
          go_quiet (fail)
          go_wp2
          go_roundw
          case rel => exact ⟨m, by omega, by go_num, he2.out, below_drewN hbel _⟩
          case measure => simp [intOf]

/-- What Cmp tells of two good numbers. -/
theorem wo_nat (g : Bool) (c s : Nat) (_hs : s ≤ 5) : wo g c s = sg g (aw c s) := by
  unfold wo ex
  have e : ((5 : Int) - (s : Int)).toNat = 5 - s := by omega
  rw [e, p10_nat, aw]
  cases g
  · simp [sg]
  · simp [sg, Int.neg_mul]

theorem refCmp_signs (g : Bool) (c c' s s' : Nat) (w : World) :
    Calls Tryd.prog 24 #[agg g c s, agg (!g) c' s'] w fun e w' => e = .returned (.int .i64 (if g then -1 else 1)) ∧ Below w.heap.size w w' := by
  cases g
  all_goals
    go_enter Tryd.func24, Tryd.ntmps24
    go_wp2
    go_returns
    exact ⟨rfl, below2 _ _ _⟩

set_option maxRecDepth 100000 in
set_option maxHeartbeats 1600000 in
theorem refCmp_same (g : Bool) (c c' s s' : Nat) (w : World) (hc : c < 1000000000000000000) (hc' : c' < 1000000000000000000) (hs : s ≤ 5) (hs' : s' ≤ 5) (z : Int) (hz : z = cmpZ (aw c s) (aw c' s')) :
    Calls Tryd.prog 24 #[agg g c s, agg g c' s'] w fun e w' => e = .returned (.int .i64 (if g then -z else z)) ∧ Below w.heap.size w w' := by
  have N0 := hid (((Now.start w).box g c s 24).box g c' s' 24)
  have hzb := cmpZ_bd (aw c s) (aw c' s')
  rw [← hz] at hzb
  have HZ := hid hz
  have HL := hid (show aw c s < 10 ^ 30 from Nat.lt_trans (aw_lt c s hc) (by decide))
  have HL' := hid (show aw c' s' < 10 ^ 30 from Nat.lt_trans (aw_lt c' s' hc') (by decide))
  have HA := hid (fun w' => refAt_holds g c s w' hc hs)
  have HB := hid (fun w' => refAt_holds g c' s' w' hc' hs')
  clear hz
  obtain ⟨U, hU⟩ : ∃ U, U = (w.alloc (.cells #[.bool g, .int .i64 c, .int .i64 s] 24)).alloc (.cells #[.bool g, .int .i64 c', .int .i64 s'] 24) := ⟨_, rfl⟩
  go_enter Tryd.func24, Tryd.ntmps24
  go_wp2_with fail
  rw [World.size_alloc] at N0
  rw [← hU] at N0 ⊢
  clear hU
  have hUb := N0.out.1
  have hUz := hUb.size
  have HS : Hid (∀ w' : World, Below U.heap.size U w' → w'.cell? ⟨w.heap.size + 1, 0, none⟩ = some (.bool g) ∧ w'.cell? ⟨w.heap.size + 1, 1, none⟩ = some (.int .i64 c') ∧ w'.cell? ⟨w.heap.size + 1, 2, none⟩ = some (.int .i64 s') ∧ w'.cell? ⟨w.heap.size, 0, none⟩ = some (.bool g) ∧ w'.cell? ⟨w.heap.size, 1, none⟩ = some (.int .i64 c) ∧ w'.cell? ⟨w.heap.size, 2, none⟩ = some (.int .i64 s)) := fun w' hb => by
    obtain ⟨_, ⟨_, p0, q0, r0⟩, ⟨_, p1, q1, r1⟩, _⟩ := N0.out.below hb
    exact ⟨p0, q0, r0, p1, q1, r1⟩
  have h3r : Below U.heap.size U U.drew := (Below.refl _ _).drew
  go_region_held3 (fun w' => w'.cell? ⟨w.heap.size + 1, 0, none⟩ = some (.bool g) ∧ w'.cell? ⟨w.heap.size + 1, 1, none⟩ = some (.int .i64 c') ∧ w'.cell? ⟨w.heap.size + 1, 2, none⟩ = some (.int .i64 s') ∧ w'.cell? ⟨w.heap.size, 0, none⟩ = some (.bool g) ∧ w'.cell? ⟨w.heap.size, 1, none⟩ = some (.int .i64 c) ∧ w'.cell? ⟨w.heap.size, 2, none⟩ = some (.int .i64 s)) (with_reducible exact HS.out _ (by with_reducible assumption))
    (first | (go_at_call 35; refine (refSize_any (aw c s) (aw c' s') _ _ _ _ _ HL.out HL'.out ?_ ?_).mono ?_; (first | (with_reducible assumption) | exact HoldsD.below (by with_reducible assumption) (by with_reducible assumption)); (first | (with_reducible assumption) | exact HoldsD.below (by with_reducible assumption) (by with_reducible assumption)); rintro e w' ⟨rfl, hbx⟩; rw [← HZ.out]; have hB := below_at hbx (by with_reducible assumption); obtain ⟨p0, q0, r0, p1, q1, r1⟩ := HS.out _ hB) | (go_at_call_of 34 (Value.int IntKind.i64 (c : Int)); refine (HA.out _).mono ?_; rintro e w' ⟨ga, xa, rfl, hga, hda, hbx⟩; have hB := below_at hbx (by with_reducible assumption)) | (go_at_call_of 34 (Value.int IntKind.i64 (c' : Int)); refine (HB.out _).mono ?_; rintro e w' ⟨gb, xb, rfl, hgb, hdb, hbx⟩; have hB := below_at hbx (by with_reducible assumption)))
  all_goals
    cases g
    all_goals
      go_wp2
      go_returns
      exact ⟨rfl, hUb.trans (Below.mono (B := U.heap.size) (by with_reducible assumption) hUz)⟩

theorem refCmp_any (g g' : Bool) (c c' s s' : Nat) (w : World) (ha : goodB g c s = true) (hb : goodB g' c' s' = true) :
    Calls Tryd.prog 24 #[agg g c s, agg g' c' s'] w fun e w' => e = .returned (.int .i64 (cmpZ (wo g c s) (wo g' c' s'))) ∧ Below w.heap.size w w' := by
  obtain ⟨a0, a1, a2, a3, a4⟩ := goodB_parts ha
  obtain ⟨b0, b1, b2, b3, b4⟩ := goodB_parts hb
  rw [wo_nat g c s (by omega), wo_nat g' c' s' (by omega)]
  have hpos : ∀ (x y : Nat), x ≠ 0 → 0 < aw x y := fun x y h => Nat.mul_pos (Nat.pos_of_ne_zero h) (Nat.pos_of_ne_zero (by simp))
  cases g
  · cases g'
    · exact refCmp_same false c c' s s' w (by omega) (by omega) (by omega) (by omega) _ rfl
    · have h := refCmp_signs false c c' s s' w
      have h2 := hpos c' s' (fun e => by have := b4 (by omega); cases this)
      have e : cmpZ (sg false (aw c s)) (sg true (aw c' s')) = 1 := by
        have h3 : sg false (aw c s : Int) = aw c s := rfl
        have h4 : sg true (aw c' s' : Int) = -(aw c' s' : Int) := rfl
        rw [h3, h4, ← cmpZ_gt (by omega) (by omega)]
      rw [e]
      exact h
  · cases g'
    · have h := refCmp_signs true c c' s s' w
      have h2 := hpos c s (fun e => by have := a4 (by omega); cases this)
      have e : cmpZ (sg true (aw c s)) (sg false (aw c' s')) = -1 := by
        have h3 : sg true (aw c s : Int) = -(aw c s : Int) := rfl
        have h4 : sg false (aw c' s' : Int) = aw c' s' := rfl
        rw [h3, h4, ← cmpZ_lt (by omega)]
      rw [e]
      exact h
    · have e : cmpZ (sg true (aw c s)) (sg true (aw c' s')) = -(cmpZ (aw c s) (aw c' s')) := by
        have h3 : sg true (aw c s : Int) = -(aw c s : Int) := rfl
        have h4 : sg true (aw c' s' : Int) = -(aw c' s' : Int) := rfl
        rw [h3, h4, cmpZ_neg, cmpZ_swap]
      rw [e]
      exact refCmp_same true c c' s s' w (by omega) (by omega) (by omega) (by omega) _ rfl
end Go.Proofs.YtfiifppmpehncaaDoor
