/-
  The document's own answers: number.
-/
import Derived.Test.YtjpndajbkemnlaaRefP
import Derived.Test.YtjpndajbkemnlaaRead
import Derived.ChangeAlike
import Derived.RegionTactic
import Derived.StillTailTactics
namespace Go.Proofs.Ytjpndajbkemnlaa
open Go.RowKit Go.Shelf

/-- The first k digits are noughts. -/
def Noughts (s : ByteArray) (k : Nat) : Prop := ∀ j (h : j < s.size), j < k → s[j].toNat = 48
theorem val_noughts {s : ByteArray} {k : Nat} (h : Noughts s k) : ∀ j, j ≤ k → j ≤ s.size → val s j = 0
  | 0, _, _ => rfl
  | j + 1, hj, hs => by
    rw [val, val_noughts h j (by omega) (by omega), ← bt_get s j (by omega), h j (by omega) (by omega)]; rfl
theorem isDg_of {s : ByteArray} (h : allB s = true) (k : Nat) (hk : k < s.size) : 48 ≤ bt s k ∧ bt s k ≤ 57 := by
  simp only [allB, List.all_eq_true, List.mem_range] at h
  have := h k hk
  simpa [isDg] using this
theorem val_up {s : ByteArray} (h : allB s = true) (k : Nat) : ∀ m, k + m ≤ s.size → val s k * p10 m ≤ val s (k + m) ∧ val s (k + m) + 1 ≤ (val s k + 1) * p10 m
  | 0, _ => by simp [p10]
  | m + 1, hm => by
    have ih := val_up h k m (by omega)
    have hd := isDg_of h (k + m) (by omega)
    have e : val s (k + (m + 1)) = 10 * val s (k + m) + ((bt s (k + m) : Int) - 48) := rfl
    have e2 : val s k * p10 (m + 1) = (val s k * p10 m) * 10 := by show val s k * (p10 m * 10) = _; rw [Int.mul_assoc]
    have e3 : (val s k + 1) * p10 (m + 1) = ((val s k + 1) * p10 m) * 10 := by show (val s k + 1) * (p10 m * 10) = _; rw [Int.mul_assoc]
    rw [e, e2, e3]
    omega
/-- Behind the noughts ahead: are there more than 18 digits? -/
theorem many_digits {s : ByteArray} (h : allB s = true) {f : Nat} (hf : f ≤ s.size) (hn : Noughts s f) (he : ∀ hlt : f < s.size, s[f].toNat ≠ 48) :
    18 < s.size - f ↔ ¬ val s s.size < 1000000000000000000 := by
  have h0 := val_noughts hn f (Nat.le_refl _) hf
  by_cases e : f = s.size
  · subst e
    rw [h0]; omega
  · have hlt : f < s.size := by omega
    have hd := isDg_of h f hlt
    have h1 := he hlt
    rw [bt_get s f hlt] at h1
    have hv1 : val s (f + 1) = 10 * val s f + ((bt s f : Int) - 48) := rfl
    have hu := val_up h (f + 1) (s.size - (f + 1)) (by omega)
    have hu2 := val_up h f (s.size - f) (by omega)
    rw [show f + 1 + (s.size - (f + 1)) = s.size by omega] at hu
    rw [show f + (s.size - f) = s.size by omega, h0] at hu2
    have hp := p10_pos (s.size - (f + 1))
    have h2 : p10 (s.size - (f + 1)) ≤ val s (f + 1) * p10 (s.size - (f + 1)) := by
      have : (1 : Int) * p10 (s.size - (f + 1)) ≤ val s (f + 1) * p10 (s.size - (f + 1)) := Int.mul_le_mul_of_nonneg_right (by omega) (by omega)
      omega
    constructor
    · intro h3
      have h4 : p10 18 ≤ p10 (s.size - (f + 1)) := p10_step 18 _ (by omega)
      have e18 : p10 18 = 1000000000000000000 := by decide
      omega
    · intro h3
      by_cases h5 : 18 < s.size - f
      · exact h5
      · have h4 : p10 (s.size - f) ≤ p10 18 := p10_step _ 18 (by omega)
        have e18 : p10 18 = 1000000000000000000 := by decide
        have : (0 + 1) * p10 (s.size - f) = p10 (s.size - f) := by omega
        omega

/-- Block g holds the digits of s. -/
def Holds (w : World) (g : Nat) (s : ByteArray) : Prop := g < w.heap.size ∧ ∀ k (h : k < s.size), w.cell? ⟨g, k, none⟩ = some (.int .i64 ((s[k].toNat : Int) - 48))
theorem Holds.below {w w' : World} {g : Nat} {s : ByteArray} (h : Holds w g s) (hb : Below w.heap.size w w') : Holds w' g s :=
  ⟨Nat.lt_of_lt_of_le h.1 hb.size, fun k hk => (hb.cell (p := ⟨g, k, none⟩) h.1).trans (h.2 k hk)⟩
/-- What number tells: coefficient, scale, error. -/
def numN (s : ByteArray) (b : Nat) : Int × Int × Int := if ¬ val s s.size < 1000000000000000000 ∨ ¬ b ≤ 5 then (0, 0, 11) else (val s s.size, b, 0)

theorem BoxNum.put1 {w : World} {b : Nat} {g : Bool} {c s : Int} (h : BoxNum w b g c s) (c' : Int) : BoxNum (w.setCell ⟨b, 1, none⟩ (.int .i64 c')) b g c' s := by
  obtain ⟨h0, h1, h2, h3⟩ := h
  exact ⟨by simpa [World.setCell] using h0, (World.cell?_setCell_other _ _ _ _ (by simp)).trans h1, World.cell?_setCell_same' _ _ _ (by rw [h2]; rfl), (World.cell?_setCell_other _ _ _ _ (by simp)).trans h3⟩
theorem BoxNum.drew {w : World} {b : Nat} {g : Bool} {c s : Int} (h : BoxNum w b g c s) : BoxNum w.drew b g c s := h.below (Below.refl _ _).drew
theorem Unfrozen.drew {w : World} {b : Nat} (h : Unfrozen w b) : Unfrozen w.drew b := fun i => h i

def NumInv (w : World) (s : ByteArray) (b : Nat) (t8 : Value) (wr : World) : Prop :=
  ∃ k : Nat, k ≤ s.size ∧ t8 = .int .i64 k ∧ BoxNum wr (w.heap.size + 1) false (val s k) b ∧ BoxNum wr w.heap.size false 0 0 ∧ Unfrozen wr w.heap.size ∧ Unfrozen wr (w.heap.size + 1) ∧ Below w.heap.size w wr

set_option maxRecDepth 1000000 in
set_option maxHeartbeats 1600000 in
theorem refNumber_any (s : ByteArray) (b g cap : Nat) (w : World) (hs : s.size ≤ 1000) (h0 : 0 < s.size) (hb : b ≤ 1000) (hall : allB s = true) (hg : Holds w g s) :
    Calls Try.prog 37 #[.slice (some ⟨g, 0, none⟩) s.size cap, .int .i64 b] w fun e w' => e = .returned (numV false (numN s b).1 (numN s b).2.1 (numN s b).2.2) ∧ Below w.heap.size w w' := by
  have HA := hid hall
  have HG := hid hg
  clear hall hg
  go_enter Try.func37, Try.ntmps37
  go_wp2
  go_loop [6] (fun i => ∃ f : Nat, f ≤ s.size ∧ i = .int .i64 f ∧ Noughts s f) (fun i => s.size - (intOf i).toNat)
  case atStart => exact ⟨0, Nat.zero_le _, rfl, fun _ _ h => absurd h (Nat.not_lt_zero _)⟩
  case round =>
    obtain ⟨f, hf, rfl, hn⟩ := hrel
    have HN := hid hn
    clear hn
    have G1 := HG.out.below ((Below.refl _ w).alloc (Nat.le_refl _) (.cells #[.bool false, .int .i64 0, .int .i64 0] 23))
    by_cases hlt : f < s.size
    · have hcell := G1.2 f hlt
      by_cases he : s[f].toNat = 48
      · have hn2 : Noughts s (f + 1) := fun j h hj => by
          by_cases e : j = f
          · subst e; exact he
          · exact HN.out j h (by omega)
        have HE := hid he
        rw [he] at hcell
        clear he
        go_wp2
        go_round
        case rel => exact ⟨f + 1, by omega, by go_num, hn2⟩
        case measure => simp [intOf]; omega
      · have HM := hid (many_digits HA.out hf HN.out (fun _ => he))
        have he2 : ((s[f].toNat : Int) - 48 == 0) = false := by rw [beq_eq_false_iff_ne]; omega
        clear he
        by_cases hb5 : 5 < b
        · have hr := hid (show numN s b = (0, 0, 11) from if_pos (.inr (by omega)))
          go_wp2
          refine bodyPost_ret (v := numV false 0 0 11) (by simp [results, Try.results37, go_sem]) rfl ⟨by rw [hr.out], ?_⟩
          go_grown
        · by_cases hm : 18 < s.size - f
          · have hr := hid (show numN s b = (0, 0, 11) from if_pos (.inl (HM.out.1 hm)))
            have hm2 : 18 < (s.size : Int) - (f : Int) := by omega
            go_wp2
            refine bodyPost_ret (v := numV false 0 0 11) (by simp [results, Try.results37, go_sem]) rfl ⟨by rw [hr.out], ?_⟩
            go_grown
          · have hv : val s s.size < 1000000000000000000 := by
              by_cases h : val s s.size < 1000000000000000000
              · exact h
              · exact absurd (HM.out.2 h) hm
            have hr := hid (show numN s b = (val s s.size, (b : Int), 0) from if_neg (by omega))
            have HV := hid hv
            have hm2 : (s.size : Int) - (f : Int) ≤ 18 := by omega
            clear hv
            have HI : Hid (NumInv w s b (.int .i64 ((0 : Nat) : Int)) ((w.alloc (.cells #[.bool false, .int .i64 0, .int .i64 0] 23)).alloc (.cells #[.bool false, .int .i64 0, .int .i64 b] 23))) := by
              have B1 := BoxNum.new (w.alloc (.cells #[.bool false, .int .i64 0, .int .i64 0] 23)) false 0 b 23
              rw [World.size_alloc] at B1
              exact ⟨0, Nat.zero_le _, rfl, B1, (BoxNum.new w false 0 0 23).alloc _, fun i => by simp [go_sem], fun i => by simp [go_sem], below2 _ _ _⟩
            go_wp2
            go_loopw [8] (fun t8 wr => NumInv w s b t8 wr) (fun t8 _ => s.size - (intOf t8).toNat)
            case atStart => exact HI.out
            case round =>
              clear HI
              obtain ⟨k, hk, rfl, hA, hR, hF, hF2, hB⟩ := hrel
              have KA := hid hA
              have KR := hid hR
              have KF := hid hF
              have KG := hid hF2
              clear hF hF2
              have hgl := HG.out.1
              by_cases hlt2 : k < s.size
              · have hcell := (HG.out.below hB).2 k hlt2
                have hd := isDg_of HA.out k hlt2
                rw [← bt_get s k hlt2] at hd
                obtain ⟨hd1, hd2⟩ := hd
                have hv0 := val_pos HA.out k (by omega)
                have hv1 := val_mono HA.out k s.size hlt2 (Nat.le_refl _)
                have hv2 : val s k < 100000000000000000 := by have := HV.out; omega
                have HS : Hid (val s (k + 1) = 10 * val s k + ((s[k].toNat : Int) - 48)) := by show _ = _; rw [val, bt_get s k hlt2]
                clear hv1
                obtain ⟨hz1, a0, a1, a2⟩ := hA
                have f1 := KG.out 1
                clear hR
                go_wp2
                go_still_tail 9, (by kernel_rfl)
                go_wp2
                go_roundw
                case rel =>
                  refine ⟨k + 1, by omega, by go_num, ?_, (KR.out.far (by dsimp only; omega) _).drew, (KF.out.setCell _ _).drew, (KG.out.setCell _ _).drew, (hB.setCell (by dsimp only; omega) _).drew⟩
                  rw [HS.out]
                  exact (KA.out.put1 _).drew
                case measure => simp [intOf]; omega
              · obtain rfl : k = s.size := by omega
                obtain ⟨hz1, a0, a1, a2⟩ := hA
                obtain ⟨hz2, x0, x1, x2⟩ := hR
                have f0 := KF.out 0
                have f1 := KF.out 1
                have f2 := KF.out 2
                go_wp2
                refine bodyPost_ret (v := numV false (val s s.size) b 0) (by simp [results, Try.results37, go_sem, *]) rfl ⟨by rw [hr.out], ?_⟩
                go_grown
    · obtain rfl : f = s.size := by omega
      have HM := hid (many_digits HA.out hf HN.out (fun h => absurd h hlt))
      clear hlt
      by_cases hb5 : 5 < b
      · have hr := hid (show numN s b = (0, 0, 11) from if_pos (.inr (by omega)))
        go_wp2
        refine bodyPost_ret (v := numV false 0 0 11) (by simp [results, Try.results37, go_sem]) rfl ⟨by rw [hr.out], ?_⟩
        go_grown
      · by_cases hm : 18 < s.size - s.size
        · exact absurd hm (by omega)
        · have hv : val s s.size < 1000000000000000000 := by
            by_cases h : val s s.size < 1000000000000000000
            · exact h
            · exact absurd (HM.out.2 h) hm
          have hr := hid (show numN s b = (val s s.size, (b : Int), 0) from if_neg (by omega))
          have HV := hid hv
          have hm2 : (s.size : Int) - (s.size : Int) ≤ 18 := by omega
          clear hv
          have HI : Hid (NumInv w s b (.int .i64 ((0 : Nat) : Int)) ((w.alloc (.cells #[.bool false, .int .i64 0, .int .i64 0] 23)).alloc (.cells #[.bool false, .int .i64 0, .int .i64 b] 23))) := by
            have B1 := BoxNum.new (w.alloc (.cells #[.bool false, .int .i64 0, .int .i64 0] 23)) false 0 b 23
            rw [World.size_alloc] at B1
            exact ⟨0, Nat.zero_le _, rfl, B1, (BoxNum.new w false 0 0 23).alloc _, fun i => by simp [go_sem], fun i => by simp [go_sem], below2 _ _ _⟩
          go_wp2
          go_loopw [8] (fun t8 wr => NumInv w s b t8 wr) (fun t8 _ => s.size - (intOf t8).toNat)
          case atStart => exact HI.out
          case round =>
            clear HI
            obtain ⟨k, hk, rfl, hA, hR, hF, hF2, hB⟩ := hrel
            have KA := hid hA
            have KR := hid hR
            have KF := hid hF
            have KG := hid hF2
            clear hF hF2
            have hgl := HG.out.1
            by_cases hlt2 : k < s.size
            · have hcell := (HG.out.below hB).2 k hlt2
              have hd := isDg_of HA.out k hlt2
              rw [← bt_get s k hlt2] at hd
              obtain ⟨hd1, hd2⟩ := hd
              have hv0 := val_pos HA.out k (by omega)
              have hv1 := val_mono HA.out k s.size hlt2 (Nat.le_refl _)
              have hv2 : val s k < 100000000000000000 := by have := HV.out; omega
              have HS : Hid (val s (k + 1) = 10 * val s k + ((s[k].toNat : Int) - 48)) := by show _ = _; rw [val, bt_get s k hlt2]
              clear hv1
              obtain ⟨hz1, a0, a1, a2⟩ := hA
              have f1 := KG.out 1
              clear hR
              go_wp2
              go_still_tail 9, (by kernel_rfl)
              go_wp2
              go_roundw
              case rel =>
                refine ⟨k + 1, by omega, by go_num, ?_, (KR.out.far (by dsimp only; omega) _).drew, (KF.out.setCell _ _).drew, (KG.out.setCell _ _).drew, (hB.setCell (by dsimp only; omega) _).drew⟩
                rw [HS.out]
                exact (KA.out.put1 _).drew
              case measure => simp [intOf]; omega
            · obtain rfl : k = s.size := by omega
              obtain ⟨hz1, a0, a1, a2⟩ := hA
              obtain ⟨hz2, x0, x1, x2⟩ := hR
              have f0 := KF.out 0
              have f1 := KF.out 1
              have f2 := KF.out 2
              go_wp2
              refine bodyPost_ret (v := numV false (val s s.size) b 0) (by simp [results, Try.results37, go_sem, *]) rfl ⟨by rw [hr.out], ?_⟩
              go_grown
end Go.Proofs.Ytjpndajbkemnlaa
