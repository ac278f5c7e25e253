/-
  Add as a whole; the known numbers.
-/
import Derived.Test.YtfiifppmpehncaaDoorDecD
import Derived.Test.YtfiifppmpehncaaDoorWrite
namespace Go.Proofs.YtfiifppmpehncaaDoor
open Go.RowKit Go.Shelf

theorem add_any (g g' : Bool) (c c' s s' : Int) (w : World) :
    Calls Tryd.prog 21 #[.agg #[.bool g, .int .i64 c, .int .i64 s], .agg #[.bool g', .int .i64 c', .int .i64 s']] w fun e w' =>
      e = .returned (numV (addN g c s g' c' s').1 (addN g c s g' c' s').2.1 (addN g c s g' c' s').2.2.1 (addN g c s g' c' s').2.2.2) ∧ Below w.heap.size w w' := by
  cases ha : goodB g c s
  · rw [addN, ha]
    exact add_bad1 g g' c c' s s' w ha
  · cases hb : goodB g' c' s'
    · rw [addN, ha, hb]
      exact add_bad2 g g' c c' s s' w ha hb
    · rw [addN, ha, hb]
      have h1 := atScale_bd g c s (max s s') (goodB_parts ha).1
      have h2 := atScale_bd g' c' s' (max s s') (goodB_parts hb).1
      by_cases hx : -1000000000000000000 < atScale g c s (max s s') + atScale g' c' s' (max s s') ∧ atScale g c s (max s s') + atScale g' c' s' (max s s') < 1000000000000000000
      · rw [if_pos (show (true && true) = true from rfl), if_pos hx]
        exact add_good g g' c c' s s' w (max s s') _ _ _ _ rfl ha hb fun w' => signed_small _ _ w' hx.1 hx.2
      · rw [if_pos (show (true && true) = true from rfl), if_neg hx]
        exact add_good g g' c c' s s' w (max s s') _ _ _ _ rfl ha hb fun w' => signed_great _ _ w' (by omega) (by omega) (by omega)

theorem known1 : parseMTN ⟨#[48, 48, 49, 50, 44, 53]⟩ = (125, 1, 0) := by decide +kernel
theorem known2 : parseXMLN ⟨#[49, 50, 46]⟩ = (0, 0, 10) := by decide +kernel
theorem known3 : parseMTN ⟨#[49, 44, 49, 50, 51, 52, 53, 54]⟩ = (0, 0, 11) := by decide +kernel
theorem dec7 : dec 7 = ⟨#[55]⟩ := by rw [dec, Lib.decDigits_one (by decide)]; rfl
theorem known4 : mtN false 7 0 = (⟨#[55, 44]⟩, 0) := by
  have h : pad 7 0 = ⟨#[55]⟩ := by rw [pad, dec7]; decide +kernel
  have hg : goodB false 7 0 = true := by decide
  rw [mtN, txt, hg]
  show (wr 7 0 ⟨#[44]⟩, 0) = _
  rw [wr, h]
  decide +kernel
theorem known5 : addN false 1250 2 true 125 1 = (false, 0, 2, 0) := by decide +kernel
theorem known6 : goodB false 125 1 = true := by decide

set_option maxRecDepth 100000 in
set_option maxHeartbeats 1000000 in
theorem wakes_any (w : World) (ht : Tab w) : Calls Tryd.prog 9 #[] w fun e w' => e = .returned (.bool true) ∧ Below w.heap.size w w' := by
  have HT := hid ht
  clear ht
  go_enter Tryd.func9, Tryd.ntmps9
  go_wp2_with fail
  with_reducible refine (parseMT_any _ _ (by decide)).mono ?_
  rintro e w1 ⟨rfl, h1⟩
  rw [known1]
  go_wp2_with fail
  with_reducible refine (parseXML_any _ _ (by decide)).mono ?_
  rintro e w2 ⟨rfl, h2⟩
  rw [known2]
  have b1 : Below w.heap.size w w1 := h1
  have A2 := (BoxNum.new w1 false 125 1 24).below h2
  have b2 : Below w.heap.size w w2 := b1.trans (((Below.refl _ _).alloc (Nat.le_refl _) _).trans (h2.mono (by simp)) |>.mono b1.size)
  go_wp2_with fail
  with_reducible refine (parseMT_any _ _ (by decide)).mono ?_
  rintro e w3 ⟨rfl, h3⟩
  rw [known3]
  have A3 := (A2.alloc (.cells #[.bool false, .int .i64 0, .int .i64 0] 24)).below h3
  have b3 : Below w.heap.size w w3 := b2.trans (((Below.refl _ _).alloc (Nat.le_refl _) _).trans (h3.mono (by simp)) |>.mono b2.size)
  go_wp2_with fail
  have b3' : Below w.heap.size w (w3.alloc (.cells #[.bool false, .int .i64 0, .int .i64 0] 24)) := b3.alloc b3.size _
  with_reducible refine (mt_any _ _ _ _ (HT.out.below b3')).mono ?_
  rintro e w4 ⟨rfl, h4⟩
  rw [known4]
  have A4 := (A3.alloc (.cells #[.bool false, .int .i64 0, .int .i64 0] 24)).below h4
  have b4 : Below w.heap.size w w4 := b3.trans (((Below.refl _ _).alloc (Nat.le_refl _) _).trans (h4.mono (by simp)) |>.mono b3.size)
  go_wp2_with fail
  with_reducible refine (add_any _ _ _ _ _ _ _).mono ?_
  rintro e w5 ⟨rfl, h5⟩
  rw [known5]
  have A5 := hid (A4.below h5)
  have b5 : Below w.heap.size w w5 := b4.trans (h5.mono b4.size)
  clear A2 A3 A4
  obtain ⟨hz, a0, a1, a2⟩ := A5.out.alloc (.cells #[.bool false, .int .i64 0, .int .i64 2] 24)
  go_wp2_with fail
  with_reducible refine (good_any _ _ _ _).mono ?_
  rintro e w6 ⟨rfl, h6⟩
  rw [known6]
  have b6 : Below w.heap.size w w6 := b5.trans (((Below.refl _ _).alloc (Nat.le_refl _) _).trans (h6.mono (by simp)) |>.mono b5.size)
  go_wp2
  go_returns
  exact ⟨rfl, b6⟩
end Go.Proofs.YtfiifppmpehncaaDoor
