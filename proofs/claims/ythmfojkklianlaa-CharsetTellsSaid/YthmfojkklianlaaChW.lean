/-
  Sets of characters: the texts that are known (wakes).
-/
import Derived.Test.YthmfojkklianlaaChO
namespace Go.Proofs.Ythmfojkklianlaa
open Go.RowKit

theorem cknown_a : foldV [65, 66, 58, 67, 68] 2 4 = [[65, 66], [46, 67], [68]] ∧ keptV [65, 66, 58, 67, 68] 2 4 = 2 := by decide +kernel
theorem cknown_b : chkV 81 [] = (0, 1) ∧ chkV 88 [97, 98, 95] = (2, 15) := by decide +kernel
theorem cknown_c : subL [75, 195, 164, 115, 101, 32, 38, 32, 67, 111] = [75, 46, 115, 101, 32, 46, 32, 67, 111] := by decide +kernel

set_option maxHeartbeats 2000000 in
theorem chwakes_any (w : World) :
    Calls Try.prog 6 #[] w fun e w' => e = .returned (.bool true) ∧ Below w.heap.size w w' := by
  have F := hid (fun w' => chfold_any ⟨#[65, 66, 58, 67, 68]⟩ (by decide) 2 4 (by decide) (by decide) (by decide) (by decide) w')
  have C1 := hid (fun w' => chcheck_any 81 ⟨#[]⟩ (by decide) (by decide) w')
  have C2 := hid (fun w' => chcheck_any 88 ⟨#[97, 98, 95]⟩ (by decide) (by decide) w')
  have S1 := hid (fun w' => chsubst_any ⟨#[75, 195, 164, 115, 101, 32, 38, 32, 67, 111]⟩ (by decide) w')
  rw [show (⟨#[65, 66, 58, 67, 68]⟩ : ByteArray).data.toList = [65, 66, 58, 67, 68] from rfl, cknown_a.1, cknown_a.2] at F
  rw [show (⟨#[]⟩ : ByteArray).data.toList = [] from rfl, cknown_b.1] at C1
  rw [show (⟨#[97, 98, 95]⟩ : ByteArray).data.toList = [97, 98, 95] from rfl, cknown_b.2] at C2
  rw [show (⟨#[75, 195, 164, 115, 101, 32, 38, 32, 67, 111]⟩ : ByteArray).data.toList = [75, 195, 164, 115, 101, 32, 38, 32, 67, 111] from rfl, cknown_c] at S1
  dsimp only at C1 C2
  go_enter Try.func6, Try.ntmps6
  go_wp2_with fail
  refine (F.out _).mono ?_
  rintro e w1 ⟨v, rfl, hrow, h1⟩
  go_wp2_with fail
  refine (C1.out _).mono ?_
  rintro e w2 ⟨rfl, h2⟩
  have b2 := h1.trans (h2.mono h1.size)
  have r2 := hrow.below h2 (Nat.le_refl _)
  clear h1 h2 hrow
  go_wp2_with fail
  refine (C2.out _).mono ?_
  rintro e w3 ⟨rfl, h3⟩
  have b3 := b2.trans (h3.mono b2.size)
  have r3 := r2.below h3 (Nat.le_refl _)
  clear b2 h3 r2
  go_wp2_with fail
  refine (S1.out _).mono ?_
  rintro e w4 ⟨rfl, h4⟩
  have b4 := b3.trans (h4.mono b3.size)
  have r4 := r3.below h4 (Nat.le_refl _)
  clear b3 h4 r3
  have J := hid (fun h => chjoin_any v [[65, 66], [46, 67], [68]] (by decide) (by decide) w4 h)
  have J2 := hid (J.out r4)
  clear J
  obtain ⟨a, cap, rfl, -, hc⟩ := r4
  obtain ⟨g, rfl, hg, hcell⟩ := hc 1 (by decide)
  rw [strVals_at (by decide)] at hcell
  have hcell' : w4.cell? ⟨g, 1, none⟩ = some (.string ⟨#[46, 67]⟩) := hcell
  clear hc hcell
  go_wp2_with fail
  refine J2.out.mono ?_
  rintro e w5 ⟨rfl, h5⟩
  have b5 := b4.trans (h5.mono b4.size)
  go_wp2
  go_returns
  exact ⟨rfl, b5⟩
end Go.Proofs.Ythmfojkklianlaa
