/-
  The contracts of package decimal, fourth part: Add of numbers that are not good, Neg, Least.
-/
import Derived.Test.YtjpndajbkemnlaaDoorDecC
namespace Go.Proofs.YtjpndajbkemnlaaDoor
open Go.RowKit

theorem below2 (w : World) (a b : Obj) : Below w.heap.size w ((w.alloc a).alloc b) :=
  ((Below.refl _ _).alloc (Nat.le_refl _) _).alloc (by simp) _

/-- No cell of block b is frozen. -/
def Unfrozen (w : World) (b : Nat) : Prop := ∀ i, w.frozen? ⟨b, i, none⟩ = false
theorem unfrozen_of {W w1 : World} {b : Nat} (h : Below W.heap.size W w1) (hb : b < W.heap.size) (hf : ∀ i, W.frozen? ⟨b, i, none⟩ = false) : Unfrozen w1 b :=
  fun i => (h.frozen (p := ⟨b, i, none⟩) hb).trans (hf i)
theorem Unfrozen.setCell {w : World} {b : Nat} (h : Unfrozen w b) (a : Addr) (u : Value) : Unfrozen (w.setCell a u) b :=
  fun i => by rw [World.frozen?_setCell]; exact h i

theorem BoxNum.far {w : World} {b : Nat} {g : Bool} {c s : Int} (h : BoxNum w b g c s) {p : Addr} (hp : b ≠ p.block) (u : Value) : BoxNum (w.setCell p u) b g c s :=
  ⟨by simpa [World.setCell] using h.1, (World.cell?_setCell_other w p ⟨b, 0, none⟩ u (fun e => hp (by rw [e]))).trans h.2.1,
    (World.cell?_setCell_other w p ⟨b, 1, none⟩ u (fun e => hp (by rw [e]))).trans h.2.2.1, (World.cell?_setCell_other w p ⟨b, 2, none⟩ u (fun e => hp (by rw [e]))).trans h.2.2.2⟩
theorem BoxNum.put12 {w : World} {b : Nat} {g : Bool} {c s : Int} (h : BoxNum w b g c s) (c' s' : Int) :
    BoxNum ((w.setCell ⟨b, 1, none⟩ (.int .i64 c')).setCell ⟨b, 2, none⟩ (.int .i64 s')) b g c' s' := by
  obtain ⟨h0, h1, h2, h3⟩ := h
  have k1 : (w.setCell ⟨b, 1, none⟩ (.int .i64 c')).cell? ⟨b, 1, none⟩ = some (.int .i64 c') := World.cell?_setCell_same' _ _ _ (by rw [h2]; rfl)
  have k2 : (w.setCell ⟨b, 1, none⟩ (.int .i64 c')).cell? ⟨b, 2, none⟩ = some (.int .i64 s) := (World.cell?_setCell_other _ _ _ _ (by simp)).trans h3
  have k0 : (w.setCell ⟨b, 1, none⟩ (.int .i64 c')).cell? ⟨b, 0, none⟩ = some (.bool g) := (World.cell?_setCell_other _ _ _ _ (by simp)).trans h1
  exact ⟨by simpa [World.setCell] using h0, (World.cell?_setCell_other _ _ _ _ (by simp)).trans k0, (World.cell?_setCell_other _ _ _ _ (by simp)).trans k1, World.cell?_setCell_same' _ _ _ (by rw [k2]; rfl)⟩

/-- What holds at the head of each round of Least. -/
def LeastInv (w : World) (g : Bool) (c : Int) (s : Nat) (wr : World) : Prop :=
  ∃ (k : Nat) (d : Int), BoxNum wr w.heap.size g d k ∧ BoxNum wr (w.heap.size + 1) false 0 0 ∧ Unfrozen wr w.heap.size ∧ Unfrozen wr (w.heap.size + 1) ∧
    0 ≤ d ∧ d < 1000000000000000000 ∧ k ≤ 5 ∧ lst k d = lst s c ∧ Below w.heap.size w wr

set_option maxHeartbeats 400000 in
theorem least_bad (g : Bool) (c s : Int) (w : World) (ha : goodB g c s = false) :
    Calls Tryd.prog 19 #[.agg #[.bool g, .int .i64 c, .int .i64 s]] w fun e w' => e = .returned (.agg #[.bool g, .int .i64 c, .int .i64 s]) ∧ Below w.heap.size w w' := by
  have HA := hid ha
  clear ha
  go_enter Tryd.func19, Tryd.ntmps19
  go_wp2_with fail
  with_reducible refine (good_any _ _ _ _).mono ?_
  rintro e w1 ⟨rfl, h1⟩
  rw [HA.out]
  have b1 : Below w.heap.size w w1 := (below2 w _ _).trans (h1.mono (by simp; omega))
  have hz : w.heap.size + 1 < w1.heap.size := by have := h1.size; simp at this; omega
  obtain ⟨hc, hf⟩ := bcell h1
  go_wp2
  refine bodyPost_ret (v := .agg #[.bool g, .int .i64 c, .int .i64 s]) (by simp [results, Tryd.results19, go_sem, hc]) rfl ⟨rfl, ?_⟩
  go_grown

set_option maxHeartbeats 400000 in
theorem least_good (g : Bool) (c : Int) (s : Nat) (w : World) (ha : goodB g c s = true) :
    Calls Tryd.prog 19 #[.agg #[.bool g, .int .i64 c, .int .i64 s]] w fun e w' => e = .returned (.agg #[.bool g, .int .i64 (lst s c).1, .int .i64 (lst s c).2]) ∧ Below w.heap.size w w' := by
  have HA := hid ha
  have pa := hid (goodB_parts ha)
  clear ha
  go_enter Tryd.func19, Tryd.ntmps19
  go_wp2_with fail
  with_reducible refine (good_any _ _ _ _).mono ?_
  rintro e w1 ⟨rfl, h1⟩
  rw [HA.out]
  have b1 : Below w.heap.size w w1 := (below2 w _ _).trans (h1.mono (by simp; omega))
  have hz : w.heap.size + 1 < w1.heap.size := by have := h1.size; simp at this; omega
  have A1 := hid (((BoxNum.new w g c s 24).alloc (.cells #[.bool false, .int .i64 0, .int .i64 0] 24)).below h1)
  obtain ⟨hc, hf⟩ := bcell h1
  go_wp2_with fail
  have R1 : BoxNum w1 (w.heap.size + 1) false 0 0 := by
    have := (BoxNum.new (w.alloc (.cells #[.bool g, .int .i64 c, .int .i64 s] 24)) false 0 0 24).below h1
    rwa [World.size_alloc] at this
  have F1 : Unfrozen w1 w.heap.size := unfrozen_of h1 (by simp; omega) fun i => by simp [go_sem]
  have G1 : Unfrozen w1 (w.heap.size + 1) := unfrozen_of h1 (by simp) fun i => by simp [go_sem]
  have HL := hid (⟨s, c, A1.out, R1, F1, G1, pa.out.1, pa.out.2.1, by have := pa.out.2.2.2.1; omega, rfl, b1⟩ : LeastInv w g c s w1)
  clear R1 F1 G1
  go_loopw [] (fun wr => LeastInv w g c s wr) (fun wr => (intOf ((wr.cell? ⟨w.heap.size, 2, none⟩).getD undef)).toNat)
  case atStart => exact HL.out
  case round =>
    clear hc hf h1 hz b1 HL A1
    obtain ⟨k, d, hA, hR, hF, hG, d0, d1, k5, he, hb⟩ := hrel
    have KA := hid hA
    have KR := hid hR
    have KF := hid hF
    have KG := hid hG
    have KE := hid he
    obtain ⟨hz1, a0, a1, a2⟩ := hA
    obtain ⟨hz2, x0, x1, x2⟩ := hR
    have f1 := hF 1
    have f2 := hF 2
    have e0 := hG 0
    have e1 := hG 1
    have e2 := hG 2
    clear hF hG he
    by_cases hk : k = 0
    · subst hk
      go_wp2
      refine bodyPost_ret (v := .agg #[.bool g, .int .i64 d, .int .i64 0]) (by simp [results, Tryd.results19, go_sem, *]) rfl ⟨?_, ?_⟩
      · rw [← KE.out]; rfl
      · go_grown
    · by_cases hd : d % 10 = 0
      · go_wp2
        have hA2 : BoxNum ((wr.setCell ⟨w.heap.size, 1, none⟩ (.int .i64 (d / 10))).setCell ⟨w.heap.size, 2, none⟩ (.int .i64 ((k : Int) - 1))) w.heap.size g (d / 10) ((k : Int) - 1) := KA.out.put12 _ _
        obtain ⟨j, rfl⟩ : ∃ j, k = j + 1 := ⟨k - 1, by omega⟩
        have hj : ((j + 1 : Nat) : Int) - 1 = (j : Int) := by omega
        refine ⟨⟨j, d / 10, ?_, (KR.out.far (by dsimp only; omega) _).far (by dsimp only; omega) _, (KF.out.setCell _ _).setCell _ _, (KG.out.setCell _ _).setCell _ _, by omega, by omega, by omega, ?_, ?_⟩, ?_⟩
        · rw [hj] at hA2
          rw [hj]
          exact hA2
        · rw [← lst_go hd]
          exact KE.out
        · go_grown
        · rw [hA2.2.2.2, KA.out.2.2.2]
          simp [intOf]
      · go_wp2
        refine bodyPost_ret (v := .agg #[.bool g, .int .i64 d, .int .i64 k]) (by simp [results, Tryd.results19, go_sem, *]) rfl ⟨?_, ?_⟩
        · rw [← KE.out, lst_stop (by omega) hd]
        · go_grown
end Go.Proofs.YtjpndajbkemnlaaDoor
