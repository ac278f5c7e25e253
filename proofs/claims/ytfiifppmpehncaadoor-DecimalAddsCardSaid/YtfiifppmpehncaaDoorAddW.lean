/-
  The document's own answers: Add.
-/
import Derived.Test.YtfiifppmpehncaaDoorAddM
import Derived.Test.YtfiifppmpehncaaDoorRefN
import Derived.Test.YtfiifppmpehncaaDoorWakes
namespace Go.Proofs.YtfiifppmpehncaaDoor
open Go.RowKit Go.Shelf

/-- The k last digits of Z stand in block b, whose cells may be written. -/
def OutInv (wx : World) (Z k : Nat) (wr : World) : Prop :=
  Below wx.heap.size wx wr ∧ wx.heap.size < wr.heap.size ∧ (∀ i, i < k → wr.cell? ⟨wx.heap.size, i, none⟩ = some (.int .i64 ((sh Z i % 10 : Nat) : Int))) ∧
    (∀ i, i < 30 → ∃ u, wr.cell? ⟨wx.heap.size, i, none⟩ = some u) ∧ (∀ i, wr.frozen? ⟨wx.heap.size, i, none⟩ = false)
theorem OutInv.put {wx wr : World} {Z k : Nat} (h : OutInv wx Z k wr) (hk : k < 30) (x : Int) (hx : x = ((sh Z k % 10 : Nat) : Int)) : OutInv wx Z (k + 1) (wr.setCell ⟨wx.heap.size, k, none⟩ (.int .i64 x)) := by
  obtain ⟨h0, h1, h2, h3, h4⟩ := h
  obtain ⟨u, hu⟩ := h3 k hk
  have hs : (wr.setCell ⟨wx.heap.size, k, none⟩ (.int .i64 x)).cell? ⟨wx.heap.size, k, none⟩ = some (.int .i64 x) := World.cell?_setCell_same' _ _ _ (by rw [hu]; rfl)
  refine ⟨h0.setCell (Nat.le_refl _) _, by simpa [World.setCell] using h1, fun i hi => ?_, fun i hi => ?_, fun i => by rw [World.frozen?_setCell]; exact h4 i⟩
  · by_cases e : i = k
    · subst e; rw [hs, hx]
    · exact (World.cell?_setCell_other _ _ _ _ (fun e2 => e (by simpa using e2.symm))).trans (h2 i (by omega))
  · by_cases e : i = k
    · subst e; exact ⟨_, hs⟩
    · obtain ⟨u', hu'⟩ := h3 i hi
      exact ⟨u', (World.cell?_setCell_other _ _ _ _ (fun e2 => e (by simpa using e2.symm))).trans hu'⟩
theorem OutInv.drewN {wx wr : World} {Z k : Nat} (h : OutInv wx Z k wr) (n : Nat) : OutInv wx Z k (wr.drewN n) := by
  obtain ⟨h0, h1, h2, h3, h4⟩ := h
  exact ⟨below_drewN h0 n, by simpa using h1, fun i hi => by simpa using h2 i hi, fun i hi => by simpa using h3 i hi, fun i => by simpa using h4 i⟩

theorem out_made {wx w' : World} {xs : List Value} (Z : Nat) (h : w'.ownsRow wx.heap.size 2 1 (.slice (some ⟨wx.heap.size, 0, none⟩) 30 30) 30 xs) (hg : wx.grownBy w' none) : OutInv wx Z 0 w' := by
  have hc := h
  obtain ⟨hl, ⟨h1, _⟩ | ⟨g, cap, cur, hv, _, hh, _⟩⟩ := h
  · cases h1
  · obtain ⟨rfl, rfl⟩ : g = wx.heap.size ∧ cap = 30 := by
      injection hv with h1 h2 h3
      injection h1 with h1
      injection h1 with h1
      exact ⟨h1.symm, h3.symm⟩
    refine ⟨(Below.refl _ _).grown hg (Nat.le_refl _) (fun k hk => by cases hk), (Array.getElem?_eq_some_iff.1 hh).1, fun _ hi => absurd hi (Nat.not_lt_zero _), fun i hi => ?_, fun i => ?_⟩
    · have hi' : i < xs.length := by omega
      have := hc.cells (g := wx.heap.size) rfl i xs[i] (List.getElem?_eq_getElem hi')
      refine ⟨xs[i], ?_⟩
      cases i <;> simpa [Addr.add] using this
    · simp [World.frozen?, hh]
theorem OutInv.below {wx wr w' : World} {Z k : Nat} (h : OutInv wx Z k wr) (hb : Below wr.heap.size wr w') : OutInv wx Z k w' := by
  obtain ⟨h0, h1, h2, h3, h4⟩ := h
  refine ⟨h0.trans (hb.mono h0.size), Nat.lt_of_lt_of_le h1 hb.size, fun i hi => (hb.cell (p := ⟨wx.heap.size, i, none⟩) h1).trans (h2 i hi), fun i hi => ?_, fun i => (hb.frozen (p := ⟨wx.heap.size, i, none⟩) h1).trans (h4 i)⟩
  obtain ⟨u, hu⟩ := h3 i hi
  exact ⟨u, (hb.cell (p := ⟨wx.heap.size, i, none⟩) h1).trans hu⟩
theorem sg_add (g : Bool) (x y : Nat) : sg g ((x + y : Nat) : Int) = sg g (x : Int) + sg g (y : Int) := by cases g <;> simp [sg] <;> omega
theorem sg_sub (g : Bool) (z y : Nat) : sg g (z : Int) = sg g ((z + y : Nat) : Int) + sg (!g) (y : Int) := by cases g <;> simp [sg] <;> omega
/-- The sum of two numbers of sign g and g' is Z, with the sign ng. -/
def SumZ (g g' : Bool) (A B : Nat) (ng : Bool) (Z : Nat) : Prop := sg ng (Z : Int) = sg g (A : Int) + sg g' (B : Int)
def CarryInv (wc : World) (A B : Nat) (t10 t11 : Value) (wr : World) : Prop :=
  ∃ k cy : Nat, k ≤ 30 ∧ t10 = .int .i64 cy ∧ t11 = .int .i64 k ∧ cy ≤ 1 ∧ sh (A + B) k = sh A k + sh B k + cy ∧ OutInv wc (A + B) k wr
def BorrowInv (wc : World) (pa qa Z Y : Nat) (t10 t13 : Value) (wr : World) : Prop :=
  ∃ k cy : Nat, k ≤ 30 ∧ t10 = .int .i64 cy ∧ t13 = .int .i64 k ∧ cy ≤ 1 ∧ sh (Z + Y) k = sh Z k + sh Y k + cy ∧ OutInv wc Z k wr ∧ HoldsD wr pa (Z + Y) ∧ HoldsD wr qa Y
theorem HoldsD.far {w : World} {g W : Nat} (h : HoldsD w g W) {p : Addr} (hp : g ≠ p.block) (u : Value) : HoldsD (w.setCell p u) g W :=
  ⟨by simpa [World.setCell] using h.1, fun k hk => (World.cell?_setCell_other _ _ _ _ (fun e => hp (by rw [e]))).trans (h.2 k hk)⟩
theorem HoldsD.drewN {w : World} {g W : Nat} (h : HoldsD w g W) (n : Nat) : HoldsD (w.drewN n) g W := h.below (below_drewN (Below.refl _ _) n)
theorem bool_ne {a b : Bool} (h : ¬ a = b) : b = !a := by cases a <;> cases b <;> simp_all
theorem bool_flip {a b : Bool} (h : b = !a) : a = !b := by cases a <;> cases b <;> simp_all
def TailInv (wc : World) (Z q : Nat) (t18 : Value) (wr : World) : Prop :=
  ∃ k : Nat, k ≤ 30 - q ∧ t18 = .int .i64 ((k : Int) - 1) ∧ BoxNum wr wc.heap.size false (sh Z (k + q) : Nat) (5 - (q : Int)) ∧ Unfrozen wr wc.heap.size ∧ sh Z (max k 18 + q) = 0 ∧ Below wc.heap.size wc wr
theorem BoxNum.put3 {w : World} {b : Nat} {g0 : Bool} {c0 s0 : Int} (h : BoxNum w b g0 c0 s0) (g : Bool) (c s : Int) :
    BoxNum (((w.setCell ⟨b, 0, none⟩ (.bool g)).setCell ⟨b, 1, none⟩ (.int .i64 c)).setCell ⟨b, 2, none⟩ (.int .i64 s)) b g c s := by
  obtain ⟨h0, h1, h2, h3⟩ := h
  have hb : BoxNum (w.setCell ⟨b, 0, none⟩ (.bool g)) b g c0 s0 :=
    ⟨by simpa [World.setCell] using h0, World.cell?_setCell_same' _ _ _ (by rw [h1]; rfl), (World.cell?_setCell_other _ _ _ _ (by simp)).trans h2, (World.cell?_setCell_other _ _ _ _ (by simp)).trans h3⟩
  exact hb.put12 c s
theorem OutInv.zero {wx wr : World} {Z Z' : Nat} (h : OutInv wx Z 0 wr) : OutInv wx Z' 0 wr := ⟨h.1, h.2.1, fun _ hi => absurd hi (Nat.not_lt_zero _), h.2.2.2⟩
theorem OutInv.of_eq {wx wr : World} {Z Z' k : Nat} (h : OutInv wx Z k wr) (e : Z = Z') : OutInv wx Z' k wr := e ▸ h

set_option maxRecDepth 1000000 in
set_option maxHeartbeats 20000000 in
theorem refAdd_good (g g' : Bool) (c c' s s' m : Nat) (w : World) (ha : goodB g c s = true) (hb : goodB g' c' s' = true) (hm : m = max s s') (r : Bool × Int × Int × Int) (hr : r = addN g c s g' c' s') :
    Calls Tryd.prog 22 #[agg g c s, agg g' c' s'] w fun e w' => e = .returned (numV r.1 r.2.1 r.2.2.1 r.2.2.2) ∧ Below w.heap.size w w' := by
  have GA := hid ha
  have GB := hid hb
  have HM := hid hm
  have HR := hid hr
  obtain ⟨-, qa, -, qb, -⟩ := goodB_parts ha
  obtain ⟨-, qc, -, qd, -⟩ := goodB_parts hb
  have HA := hid (fun w' => refAt_holds g c s w' (by omega) (by omega))
  have HB := hid (fun w' => refAt_holds g' c' s' w' (by omega) (by omega))
  have HLA := hid (aw_lt c s (by omega))
  have HLB := hid (aw_lt c' s' (by omega))
  have N0 := hid ((((Now.start w).box g c s 24).box g' c' s' 24).box false 0 0 24)
  have F0 : Hid (Unfrozen (((w.alloc (.cells #[.bool g, .int .i64 c, .int .i64 s] 24)).alloc (.cells #[.bool g', .int .i64 c', .int .i64 s'] 24)).alloc (.cells #[.bool false, .int .i64 0, .int .i64 0] 24)) (w.heap.size + 1 + 1)) := fun i => by simp [go_sem]
  simp only [World.size_alloc] at N0
  clear ha hb hm hr
  go_enter Tryd.func22, Tryd.ntmps22
  obtain ⟨bb, ⟨z0, x0, y0, t0⟩, ⟨z1, x1, y1, t1⟩, ⟨z2, x2, y2, t2⟩, _⟩ := N0.out
  go_wp2_with fail
  with_reducible refine (refGood_any _ _ _ _).mono ?_
  rintro e w1 ⟨rfl, h1⟩
  rw [GA.out]
  have F1 := hid (unfrozen_of h1 z0 F0.out)
  have N1 := hid (N0.out.below h1)
  clear bb z0 x0 y0 t0 z1 x1 y1 t1 z2 x2 y2 t2 N0 F0 h1
  obtain ⟨bb, ⟨z0, x0, y0, t0⟩, ⟨z1, x1, y1, t1⟩, ⟨z2, x2, y2, t2⟩, _⟩ := N1.out
  go_wp2_with fail
  with_reducible refine (refGood_any _ _ _ _).mono ?_
  rintro e w2 ⟨rfl, h2⟩
  rw [GB.out]
  have F2 := hid (unfrozen_of h2 z0 F1.out)
  have N2 := hid (N1.out.below h2)
  clear bb z0 x0 y0 t0 z1 x1 y1 t1 z2 x2 y2 t2 N1 F1 h2
  go_upto_region 3 with fail
  go_cut [6, 7, 8] (fun p q t wx => ∃ ga ca gb cb : Nat, p = .slice (some ⟨ga, 0, none⟩) 30 ca ∧ q = .slice (some ⟨gb, 0, none⟩) 30 cb ∧ t = .bool g ∧ HoldsD wx ga (aw c s) ∧ HoldsD wx gb (aw c' s') ∧ Below w2.heap.size w2 wx)
  case first =>
    have hUz := N2.out.1.size
    have HS : Hid (∀ w' : World, Below w2.heap.size w2 w' → w'.cell? ⟨w.heap.size + 1, 0, none⟩ = some (.bool g') ∧ w'.cell? ⟨w.heap.size + 1, 1, none⟩ = some (.int .i64 c') ∧ w'.cell? ⟨w.heap.size + 1, 2, none⟩ = some (.int .i64 s') ∧ w'.cell? ⟨w.heap.size, 0, none⟩ = some (.bool g) ∧ w'.cell? ⟨w.heap.size, 1, none⟩ = some (.int .i64 c) ∧ w'.cell? ⟨w.heap.size, 2, none⟩ = some (.int .i64 s)) := fun w' hb => by
      obtain ⟨_, _, ⟨_, p0, q0, r0⟩, ⟨_, p1, q1, r1⟩, _⟩ := N2.out.below hb
      exact ⟨p0, q0, r0, p1, q1, r1⟩
    have h3r : Below w2.heap.size w2 w2.drew := (Below.refl _ _).drew
    go_region_held3 (fun w' => w'.cell? ⟨w.heap.size + 1, 0, none⟩ = some (.bool g') ∧ w'.cell? ⟨w.heap.size + 1, 1, none⟩ = some (.int .i64 c') ∧ w'.cell? ⟨w.heap.size + 1, 2, none⟩ = some (.int .i64 s') ∧ w'.cell? ⟨w.heap.size, 0, none⟩ = some (.bool g) ∧ w'.cell? ⟨w.heap.size, 1, none⟩ = some (.int .i64 c) ∧ w'.cell? ⟨w.heap.size, 2, none⟩ = some (.int .i64 s)) (with_reducible exact HS.out _ (by with_reducible assumption))
      (first | (go_at_call_of 34 (Value.int IntKind.i64 (c : Int)); refine (HA.out _).mono ?_; rintro e w' ⟨ga, xa, rfl, hga, hda, hbx⟩; have hB := below_at hbx (by with_reducible assumption)) | (go_at_call_of 34 (Value.int IntKind.i64 (c' : Int)); refine (HB.out _).mono ?_; rintro e w' ⟨gb, xb, rfl, hgb, hdb, hbx⟩; have hB := below_at hbx (by with_reducible assumption)))
    all_goals
      go_wp2_with fail
      go_meet
    all_goals refine ⟨_, _, _, _, rfl, rfl, rfl, ?_, ?_, by with_reducible assumption⟩
    all_goals first | (with_reducible assumption) | exact HoldsD.below (by with_reducible assumption) (by with_reducible assumption)
  case rest =>
    obtain ⟨ga, ca, gb, cb, rfl, rfl, rfl, hda, hdb, hbx⟩ := hcut
    have N3 := hid (N2.out.below hbx)
    have F3 := hid (unfrozen_of hbx N2.out.2.1.1 F2.out)
    have DA := hid hda
    have DB := hid hdb
    clear N2 F2 hbx hda hdb
    obtain ⟨bb, ⟨z0, x0, y0, t0⟩, ⟨z1, x1, y1, t1⟩, ⟨z2, x2, y2, t2⟩, _⟩ := N3.out
    obtain ⟨i0, hi, hz0, hz1, hz2⟩ := info_parts info_i64
    go_wp2_with (refine wpList_make_full _ rfl _ _ 43 rfl wc.heap.size 2 i0 (.int .i64 0) 1 Tryd.underlying43 hi hz0 hz1 .i64 .i64 30 30 30 rfl rfl rfl rfl ?m1 ?m2 (Nat.le_refl _) ?_)
    case m2 => unfold maxLen; omega
    intro w4 hown hgrow
    have OM := hid (out_made 0 hown hgrow)
    obtain ⟨wb, hwb⟩ : ∃ wb, wb = wc := ⟨_, rfl⟩
    subst hwb
    clear hown hgrow hz0 hz1 hz2 hi bb z0 x0 y0 t0 z1 x1 y1 t1 z2 x2 y2 t2
    have N4 := hid (N3.out.below OM.out.1)
    obtain ⟨bb, _, ⟨z1, x1, y1, t1⟩, ⟨z2, x2, y2, t2⟩, _⟩ := N4.out
    go_upto_if 39 with fail
    go_cut [8] (fun t wz => ∃ (ng : Bool) (Z : Nat), t = .bool ng ∧ SumZ g g' (aw c s) (aw c' s') ng Z ∧ Z < 10 ^ 30 ∧ OutInv wb Z 30 wz)
    case first =>
      by_cases hgg : g = g'
      · subst hgg
        have HZ := hid (show aw c s + aw c' s' < 10 ^ 30 by have := HLA.out; have := HLB.out; omega)
        have e0 : Hid (sh (aw c s + aw c' s') 0 = sh (aw c s) 0 + sh (aw c' s') 0 + 0) := by show _ = _; rw [sh_zero, sh_zero, sh_zero]; rfl
        rw [show (g == g) = true from beq_self_eq_true g]
        go_wp2_with fail
        clear bb z1 x1 y1 t1 z2 x2 y2 t2
        go_loopw [10, 11] (fun t10 t11 wr => CarryInv wb (aw c s) (aw c' s') t10 t11 wr) (fun _ t11 _ => 30 - (intOf t11).toNat)
        case atStart => exact ⟨0, 0, by omega, rfl, rfl, by omega, e0.out, OM.out.zero⟩
        case round =>
          obtain ⟨k, cy, hk, rfl, rfl, hcy, hsum, hO⟩ := hrel
          have HSUM := hid hsum
          have KO := hid hO
          clear hsum hO e0
          by_cases hlt : k < 30
          · have xa := (DA.out.below KO.out.1).2 k hlt
            have xb := (DB.out.below KO.out.1).2 k hlt
            obtain ⟨u, hu⟩ := KO.out.2.2.2.1 k hlt
            have hf := KO.out.2.2.2.2 k
            obtain ⟨x, hx⟩ : ∃ x, x = sh (aw c s) k % 10 := ⟨_, rfl⟩
            obtain ⟨y, hy⟩ : ∃ y, y = sh (aw c' s') k % 10 := ⟨_, rfl⟩
            rw [← hx] at xa
            rw [← hy] at xb
            have hx10 : x < 10 := by omega
            have hy10 : y < 10 := by omega
            have HST := hid (sum_step HSUM.out hx hy hcy)
            have hk1 : (k : Int) < 30 := by omega
            clear hx hy
            go_wp2
            go_quiet (fail)
            go_wp2
            go_roundw
            case rel =>
              refine ⟨k + 1, (x + y + cy) / 10, by omega, by go_num, by go_num, by omega, HST.out.2, (KO.out.drewN nq).put hlt _ ?_⟩
              rw [HST.out.1]; go_num
            case measure => simp [intOf]; omega
          · obtain rfl : k = 30 := by omega
            clear hlt
            go_wp2_with fail
            go_meet
            exact ⟨g, aw c s + aw c' s', rfl, sg_add g _ _, HZ.out, KO.out⟩
      · have HGG := hid (bool_ne hgg)
        have hgq : (g == g') = false := by rw [HGG.out]; cases g <;> rfl
        rw [hgq]
        clear hgq hgg
        have HA30 := hid (show aw c s < 10 ^ 30 by have := HLA.out; omega)
        have HB30 := hid (show aw c' s' < 10 ^ 30 by have := HLB.out; omega)
        have DA4 := hid (DA.out.below OM.out.1)
        have DB4 := hid (DB.out.below OM.out.1)
        have HZI := hid (show (cmpZ (aw c s : Int) (aw c' s' : Int) < 0 → aw c s < aw c' s') ∧ (¬ cmpZ (aw c s : Int) (aw c' s' : Int) < 0 → aw c' s' ≤ aw c s) by
          rw [cmpZ]
          split
          · omega
          · split <;> omega)
        go_upto_if 65 with (go_at_call 35; refine (refSize_any _ _ _ _ _ _ _ HA30.out HB30.out DA4.out DB4.out).mono ?_; rintro e w5 ⟨rfl, h5⟩)
        have OM5 := hid (OM.out.below h5)
        have N5 := hid (N4.out.below h5)
        have DA5 := hid (DA4.out.below h5)
        have DB5 := hid (DB4.out.below h5)
        clear bb z1 x1 y1 t1 z2 x2 y2 t2
        go_cut [6, 7, 8] (fun p q t wz => ∃ (pa pc qa qc : Nat) (ng : Bool) (Z Y : Nat), p = .slice (some ⟨pa, 0, none⟩) 30 pc ∧ q = .slice (some ⟨qa, 0, none⟩) 30 qc ∧ t = .bool ng ∧ HoldsD wz pa (Z + Y) ∧ HoldsD wz qa Y ∧ SumZ g g' (aw c s) (aw c' s') ng Z ∧ Z + Y < 10 ^ 30 ∧ OutInv wb 0 0 wz ∧ pa ≠ wb.heap.size ∧ qa ≠ wb.heap.size)
        case first =>
          by_cases hz : cmpZ (aw c s : Int) (aw c' s' : Int) < 0
          · have hAB := HZI.out.1 hz
            rw [show decide (cmpZ (aw c s : Int) (aw c' s' : Int) < 0) = true from decide_eq_true hz]
            clear hz
            obtain ⟨bb, _, ⟨z1, x1, y1, t1⟩, ⟨z2, x2, y2, t2⟩, _⟩ := N5.out
            go_wp2_with fail
            with_reducible refine (HB.out _).mono ?_
            rintro e w6 ⟨pa, pc, rfl, hga, hda, h6⟩
            have N6 := hid (N5.out.below h6)
            have OM6 := hid (OM5.out.below h6)
            clear bb z1 x1 y1 t1 z2 x2 y2 t2
            obtain ⟨bb, _, ⟨z1, x1, y1, t1⟩, ⟨z2, x2, y2, t2⟩, _⟩ := N6.out
            go_wp2_with fail
            with_reducible refine (HA.out _).mono ?_
            rintro e w7 ⟨qa, qc, rfl, hgb, hdb, h7⟩
            have N7 := hid (N6.out.below h7)
            have OM7 := hid (OM6.out.below h7)
            have DA7 := hid (hda.below h7)
            clear bb z1 x1 y1 t1 z2 x2 y2 t2
            obtain ⟨bb, _, ⟨z1, x1, y1, t1⟩, ⟨z2, x2, y2, t2⟩, _⟩ := N7.out
            go_wp2_with fail
            go_meet
            have e1 : aw c' s' - aw c s + aw c s = aw c' s' := by omega
            refine ⟨pa, pc, qa, qc, g', aw c' s' - aw c s, aw c s, rfl, rfl, rfl, by rw [e1]; exact DA7.out, hdb, ?_, by rw [e1]; exact HB30.out, OM7.out, by have := OM5.out.2.1; omega, by have := OM6.out.2.1; omega⟩
            have h := sg_sub g' (aw c' s' - aw c s) (aw c s)
            rw [e1, ← bool_flip HGG.out] at h
            show _ = _
            rw [h, Int.add_comm]
          · have hAB := HZI.out.2 (Int.not_lt.1 hz)
            rw [show decide (cmpZ (aw c s : Int) (aw c' s' : Int) < 0) = false from decide_eq_false hz]
            clear hz
            go_wp2_with fail
            go_meet
            have e1 : aw c s - aw c' s' + aw c' s' = aw c s := by omega
            refine ⟨ga, ca, gb, cb, g, aw c s - aw c' s', aw c' s', rfl, rfl, rfl, by rw [e1]; exact DA5.out, DB5.out, ?_, by rw [e1]; exact HA30.out, OM5.out, by have := DA.out.1; omega, by have := DB.out.1; omega⟩
            have h := sg_sub g (aw c s - aw c' s') (aw c' s')
            rw [e1, ← HGG.out] at h
            exact h
        case rest =>
          obtain ⟨pa, pc, qa, qc, ng, Z, Y, rfl, rfl, rfl, hpa, hqa, hsz, hlim, hO, hne1, hne2⟩ := hcut
          have HNE := hid (And.intro hne1 hne2)
          have HPA := hid hpa
          have HQA := hid hqa
          have HSZ := hid hsz
          have HLIM := hid hlim
          have HO0 := hid hO
          clear hpa hqa hsz hlim hO hne1 hne2 DA5 DB5 OM5 N5 h5
          have e0 : Hid (sh (Z + Y) 0 = sh Z 0 + sh Y 0 + 0) := by show _ = _; rw [sh_zero, sh_zero, sh_zero]; rfl
          go_wp2_with fail
          go_loopw [10, 13] (fun t10 t13 wr => BorrowInv wb pa qa Z Y t10 t13 wr) (fun _ t13 _ => 30 - (intOf t13).toNat)
          case atStart => exact ⟨0, 0, by omega, rfl, rfl, by omega, e0.out, HO0.out.zero, HPA.out, HQA.out⟩
          case round =>
            obtain ⟨k, cy, hk, rfl, rfl, hcy, hsum, hO, hpa, hqa⟩ := hrel
            have KP := hid hpa
            have KQ := hid hqa
            clear hpa hqa
            have HSUM := hid hsum
            have KO := hid hO
            clear hsum hO e0
            by_cases hlt : k < 30
            · have xa := KP.out.2 k hlt
              have xb := KQ.out.2 k hlt
              obtain ⟨u, hu⟩ := KO.out.2.2.2.1 k hlt
              have hf := KO.out.2.2.2.2 k
              obtain ⟨x, hx⟩ : ∃ x, x = sh (Z + Y) k % 10 := ⟨_, rfl⟩
              obtain ⟨y, hy⟩ : ∃ y, y = sh Y k % 10 := ⟨_, rfl⟩
              rw [← hx] at xa
              rw [← hy] at xb
              have hx10 : x < 10 := by omega
              have hy10 : y < 10 := by omega
              have HST := hid (diff_step HSUM.out hx hy hcy)
              have hk1 : (k : Int) < 30 := by omega
              clear hx hy
              by_cases hle : y + cy ≤ x
              · have hd0 : (0 : Int) ≤ (x : Int) - (y : Int) - (cy : Int) := by omega
                have hst := HST.out.1 hle
                have HS1 := hid hst
                clear hst
                go_wp2
                go_quiet (fail)
                generalize hd : ((x : Int) - (y : Int) - (cy : Int)) = d at hd0 ⊢
                have HD := hid hd
                have hdb : d < 10 := by omega
                clear hd
                go_upto_if 88 with fail
                rw [show decide (d < 0) = false from decide_eq_false (by omega)]
                go_wp2
                go_roundw
                case rel =>
                  refine ⟨k + 1, 0, by omega, rfl, by go_num, by omega, HS1.out.2, (KO.out.drewN nq).put hlt _ ?_, (KP.out.drewN nq).far HNE.out.1 _, (KQ.out.drewN nq).far HNE.out.2 _⟩
                  rw [HS1.out.1]; have := HD.out; omega
                case measure => simp [intOf]; omega
              · have hd0 : (x : Int) - (y : Int) - (cy : Int) < 0 := by omega
                have hst := HST.out.2 (by omega)
                have HS1 := hid hst
                clear hst
                go_wp2
                go_quiet (fail)
                generalize hd : ((x : Int) - (y : Int) - (cy : Int)) = d at hd0 ⊢
                have HD := hid hd
                have hdb : -20 < d := by omega
                clear hd
                go_upto_if 88 with fail
                go_wp2
                go_roundw
                case rel =>
                  refine ⟨k + 1, 1, by omega, rfl, by go_num, by omega, HS1.out.2, (KO.out.drewN nq).put hlt _ ?_, (KP.out.drewN nq).far HNE.out.1 _, (KQ.out.drewN nq).far HNE.out.2 _⟩
                  rw [HS1.out.1]; have := HD.out; omega
                case measure => simp [intOf]; omega
            · obtain rfl : k = 30 := by omega
              clear hlt
              go_wp2_with fail
              go_meet
              exact ⟨ng, Z, rfl, HSZ.out, by have := HLIM.out; omega, KO.out⟩
    case rest =>
      obtain ⟨ng, Z, rfl, hsz, hZ, hO⟩ := hcut
      have HSZ := hid hsz
      have HZ := hid hZ
      have KO := hid hO
      have N5 := hid (N3.out.below hO.1)
      have F5 := hid (unfrozen_of hO.1 N3.out.2.1.1 F3.out)
      clear hsz hZ hO bb z1 x1 y1 t1 z2 x2 y2 t2 N4
      obtain ⟨bb, ⟨z0, x0, y0, t0⟩, ⟨z1, x1, y1, t1⟩, ⟨z2, x2, y2, t2⟩, _⟩ := N5.out
      go_upto_region 27 with fail
      rw [show max (s : Int) (s' : Int) = (m : Int) from by have := HM.out; omega]
      obtain ⟨q, hq⟩ : ∃ q : Nat, q = 5 - m := ⟨_, rfl⟩
      have hm5 : m ≤ 5 := by have := HM.out; omega
      have hqm : (m : Int) = 5 - (q : Int) := by omega
      have hq5 : q ≤ 5 := by omega
      have HQ := hid hq
      have HQM := hid hqm
      rw [hqm]
      clear hq hqm
      have HADD : Hid (r = if sh Z q < 1000000000000000000 then (ng && decide (sh Z q ≠ 0), (sh Z q : Int), (m : Int), 0) else (false, 0, 0, 11)) := by
        have := addN_of GA.out GB.out HM.out HSZ.out
        rw [← HQ.out] at this
        exact HR.out.trans this
      have HI : Hid (TailInv wc Z q (.int .i64 (((30 - q : Nat) : Int) - 1)) (wc.alloc (.cells #[.bool false, .int .i64 0, .int .i64 (5 - (q : Int))] 24))) := by
        have hB := BoxNum.new wc false 0 (5 - (q : Int)) 24
        have h30 := sh_big HZ.out
        refine ⟨30 - q, Nat.le_refl _, rfl, ?_, fun i => by simp [go_sem], ?_, (Below.refl _ _).alloc (Nat.le_refl _) _⟩
        · rw [show 30 - q + q = 30 by omega, h30]; exact hB
        · rw [show max (30 - q) 18 + q = 30 by omega, h30]
      go_wp2_with fail
      rw [show 5 - (5 - q) = q from by omega]
      obtain ⟨l, hl⟩ : ∃ l, l = 30 - q := ⟨_, rfl⟩
      rw [← hl] at HI ⊢
      have HL := hid hl
      have hl2 : l ≤ 30 := by omega
      have HL3 := hid (show l + q = 30 by omega)
      clear hl z0 x0 y0 t0 z1 x1 y1 t1 z2 x2 y2 t2
      go_loopw [18] (fun t18 wr => TailInv wc Z q t18 wr) (fun t18 _ => (intOf t18 + 1).toNat)
      case atStart => exact HI.out
      case round =>
        clear HI
        obtain ⟨k, hk, rfl, hA, hF, hmx, hbel⟩ := hrel
        have KA := hid hA
        have KF := hid hF
        have KM := hid hmx
        clear hF hmx
        have N6 := hid (N5.out.below hbel)
        have F6 := hid (unfrozen_of hbel N5.out.2.1.1 F5.out)
        have hlt0 : w.heap.size + 1 + 1 < wc.heap.size := N5.out.2.1.1
        rcases k with _ | j
        · have hq18 := hid (show sh Z q < 1000000000000000000 by
            have := sh_few Z (18 + q) 18 (by omega) (by have h := KM.out; rwa [show max 0 18 + q = 18 + q by omega] at h)
            rwa [show 18 + q - 18 = q by omega] at this)
          have hr := hid (HADD.out.trans (if_pos hq18.out))
          clear hA
          have hA : BoxNum wr wc.heap.size false ((sh Z q : Nat) : Int) (5 - (q : Int)) := by have := KA.out; rwa [Nat.zero_add] at this
          obtain ⟨C, hC⟩ : ∃ C : Nat, C = sh Z q := ⟨_, rfl⟩
          rw [← hC] at hA hr
          clear hC
          obtain ⟨hz1, a0, a1, a2⟩ := hA
          obtain ⟨bb, ⟨z0, x0, y0, t0⟩, _⟩ := N6.out
          have f0 := KF.out 0
          have e0 := F6.out 0
          have e1 := F6.out 1
          have e2 := F6.out 2
          have HMQ := hid (show (m : Int) = 5 - (q : Int) by have := HQM.out; omega)
          rw [show ((0 : Nat) : Int) - 1 = -1 from rfl]
          cases ng
          · go_wp2
            have hbx := ((N6.out.2.1.far (p := ⟨wc.heap.size, 0, none⟩) (by dsimp only; omega) (.bool false))).put3 false C (5 - (q : Int))
            obtain ⟨_, k0, k1, k2⟩ := hbx
            refine bodyPost_ret (v := numV false C (5 - (q : Int)) 0) (by simp only [results, Tryd.results22]; simp [go_sem, k0, k1, k2]) rfl ⟨by rw [hr.out, HMQ.out]; rfl, ?_⟩
            go_grown
          · by_cases h0 : C = 0
            · have hr2 := hid (show decide (C ≠ 0) = false by simp [h0])
              have hC0 : ((C : Int) != 0) = false := by rw [h0]; rfl
              clear h0
              go_wp2
              have hbx := ((N6.out.2.1.far (p := ⟨wc.heap.size, 0, none⟩) (by dsimp only; omega) (.bool false))).put3 false C (5 - (q : Int))
              obtain ⟨_, k0, k1, k2⟩ := hbx
              refine bodyPost_ret (v := numV false C (5 - (q : Int)) 0) (by simp only [results, Tryd.results22]; simp [go_sem, k0, k1, k2]) rfl ⟨by rw [hr.out, HMQ.out, hr2.out]; rfl, ?_⟩
              go_grown
            · have hr2 := hid (show decide (C ≠ 0) = true from decide_eq_true h0)
              have hC0 : ((C : Int) != 0) = true := by rw [bne_iff_ne]; omega
              clear h0
              go_wp2
              have hbx := ((N6.out.2.1.far (p := ⟨wc.heap.size, 0, none⟩) (by dsimp only; omega) (.bool true))).put3 true C (5 - (q : Int))
              obtain ⟨_, k0, k1, k2⟩ := hbx
              refine bodyPost_ret (v := numV true C (5 - (q : Int)) 0) (by simp only [results, Tryd.results22]; simp [go_sem, k0, k1, k2]) rfl ⟨by rw [hr.out, HMQ.out, hr2.out]; rfl, ?_⟩
              go_grown
        · rw [show ((j + 1 : Nat) : Int) - 1 = (j : Int) from by omega]
          have hlq := HL3.out
          have hcell := (hbel.cell (p := ⟨wb.heap.size, q + j, none⟩) KO.out.2.1).trans (KO.out.2.2.1 (q + j) (by omega))
          obtain ⟨x, hx⟩ : ∃ x : Nat, x = sh Z (q + j) % 10 := ⟨_, rfl⟩
          obtain ⟨C, hC⟩ : ∃ C : Nat, C = sh Z (j + 1 + q) := ⟨_, rfl⟩
          have hx10 : x < 10 := by omega
          have HS := hid (show sh Z (j + q) = 10 * C + x by
            have := sh_digits Z (j + q)
            rw [show j + q + 1 = j + 1 + q by omega] at this
            rw [hC, hx, Nat.add_comm q j]
            exact this)
          rw [← hx] at hcell
          have KA2 : Hid (BoxNum wr wc.heap.size false (C : Nat) (5 - (q : Int))) := by show BoxNum _ _ _ _ _; rw [hC]; exact KA.out
          have HCC := hid hC
          have hjl : (j : Int) < (l : Int) := by omega
          have hblt : wb.heap.size < wc.heap.size := KO.out.2.1
          clear hA hx hC hlq KA
          obtain ⟨hz1, a0, a1, a2⟩ := KA2.out
          have f1 := KF.out 1
          by_cases h18 : 18 ≤ j
          · have h18i : (18 : Int) ≤ (j : Int) := by omega
            have hC0 : C = 0 := by
              have := KM.out
              rw [show max (j + 1) 18 + q = j + 1 + q by omega, ← HCC.out] at this
              exact this
            have HC0 := hid hC0
            have hCb : C ≤ 0 := by omega
            clear hC0
            by_cases hx0 : x = 0
            · have hxq : ((x : Int) != 0) = false := by rw [hx0]; rfl
              have HX0 := hid hx0
              clear hx0
              go_upto_if 121 with fail
              (try rw [hxq])
              clear hxq
              go_wp2
              go_still_tail 9, (by kernel_rfl)
              go_wp2
              go_roundw
              case rel =>
                refine ⟨j, by omega, rfl, ?_, (KF.out.setCell _ _).drew, ?_, (hbel.setCell (Nat.le_refl _) _).drew⟩
                · rw [HS.out]; exact (KA2.out.put1 _).drew
                · rw [show max j 18 + q = j + q by omega, HS.out, HC0.out, HX0.out]
              case measure => simp [intOf]
            · have hxq : ((x : Int) != 0) = true := by rw [bne_iff_ne]; omega
              have hbig := hid (show ¬ sh Z q < 1000000000000000000 by
                have h1 := HS.out
                have h2 := sh_anti Z (a := q + 18) (b := j + q) (by omega)
                have h3 := sh_many Z q 18 (by omega)
                have h4 : (10 : Nat) ^ 18 = 1000000000000000000 := by decide
                omega)
              have hr := hid (HADD.out.trans (if_neg hbig.out))
              clear hx0
              obtain ⟨bb, ⟨z0, x0, y0, t0⟩, _⟩ := N6.out
              have e0 := F6.out 0
              have e1 := F6.out 1
              have e2 := F6.out 2
              go_upto_if 121 with fail
              (try rw [hxq])
              clear hxq
              go_wp2
              have hbx := N6.out.2.1.put3 false 0 0
              obtain ⟨_, k0, k1, k2⟩ := hbx
              refine bodyPost_ret (v := numV false 0 0 11) (by simp only [results, Tryd.results22]; simp [go_sem, k0, k1, k2]) rfl ⟨by rw [hr.out], ?_⟩
              go_grown
          · have h18i : (j : Int) < 18 := by omega
            have hfew := sh_few Z (18 + q) (17 - j) (by omega) (by have h := KM.out; rwa [show max (j + 1) 18 + q = 18 + q by omega] at h)
            rw [show 18 + q - (17 - j) = j + 1 + q by omega, ← HCC.out] at hfew
            have hp : 10 ^ (17 - j) ≤ 10 ^ 17 := Nat.pow_le_pow_right (by omega) (by omega)
            have hC17 : C < 100000000000000000 := Nat.lt_of_lt_of_le hfew hp
            have hd18 : decide ((18 : Int) ≤ (j : Int)) = false := decide_eq_false (by omega)
            have hC18 : (C : Int) < 100000000000000000 := by omega
            clear hfew hp h18 hC17
            go_upto_if 121 with fail
            clear hd18
            go_wp2
            go_still_tail 9, (by kernel_rfl)
            go_wp2
            go_roundw
            case rel =>
              refine ⟨j, by omega, rfl, ?_, (KF.out.setCell _ _).drew, ?_, (hbel.setCell (Nat.le_refl _) _).drew⟩
              · rw [HS.out]; exact (KA2.out.put1 _).drew
              · have h := KM.out
                rwa [show max (j + 1) 18 + q = max j 18 + q by omega] at h
            case measure => simp [intOf]
end Go.Proofs.YtfiifppmpehncaaDoor
