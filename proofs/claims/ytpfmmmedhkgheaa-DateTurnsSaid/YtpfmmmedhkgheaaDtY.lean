/-
  Package date: a text's day of the MT family.
-/
import Derived.Test.YtpfmmmedhkgheaaDtZ
namespace Go.Proofs.Ytpfmmmedhkgheaa
open Go.RowKit

set_option maxRecDepth 100000 in
set_option maxHeartbeats 4000000 in
theorem datereadmt_bad (s : ByteArray) (w : World) (hs : s.size ≤ 9223372036854775807) (hsh : shapeV s.data.toList formM = false) :
    Calls Try.prog 18 #[.string s] w fun e w' => e = .returned (.tuple #[.agg #[.int .i64 0, .int .i64 0, .int .i64 0], .int .i64 16]) ∧ Below w.heap.size w w' := by
  have SH := hid (fun w' => dateshaped_any s ⟨#[48, 48, 48, 48, 48, 48]⟩ w' hs (by decide))
  have hF : (⟨#[48, 48, 48, 48, 48, 48]⟩ : ByteArray).data.toList = formM := rfl
  rw [hF] at SH
  clear hF
  rw [hsh, dcode_no] at SH
  clear hsh
  go_enter Try.func18, Try.ntmps18
  go_wp2_with fail
  refine (SH.out _).mono ?_
  rintro e w1 ⟨rfl, h1⟩
  have hz := h1.size
  rw [World.size_alloc] at hz
  obtain ⟨hc, hf⟩ := bcell h1
  have b1 : Below w.heap.size w w1 := ((Below.refl _ w).alloc (Nat.le_refl _) _).trans (h1.mono (by simp))
  go_wp2
  refine bodyPost_ret (v := .tuple #[.agg #[.int .i64 0, .int .i64 0, .int .i64 0], .int .i64 16]) (by simp [results, Try.results18, go_sem, *]) rfl ⟨rfl, ?_⟩
  go_grown

set_option maxRecDepth 100000 in
set_option maxHeartbeats 8000000 in
theorem datereadmt_good (s : ByteArray) (w : World) (hs : s.size ≤ 9223372036854775807) (hsh : shapeV s.data.toList formM = true) (Y M D y : Nat) (hY : dgV s.data.toList 0 2 = (Y : Int)) (hM : dgV s.data.toList 2 2 = (M : Int)) (hD : dgV s.data.toList 4 2 = (D : Int))
    (bY : Y ≤ 99) (bM : M ≤ 99) (bD : D ≤ 99) (hy : (y : Int) = fullY Y) :
    Calls Try.prog 18 #[.string s] w fun e w' => e = .returned (.tuple #[dayS (isDay y M D) y M D, .int .i64 (dcode (isDay y M D))]) ∧ Below w.heap.size w w' := by
  have SH := hid (fun w' => dateshaped_any s ⟨#[48, 48, 48, 48, 48, 48]⟩ w' hs (by decide))
  have hF : (⟨#[48, 48, 48, 48, 48, 48]⟩ : ByteArray).data.toList = formM := rfl
  rw [hF] at SH
  clear hF
  have hsz : s.size = 6 := by have := (shape_at hsh).1; simpa [formM] using this
  have D1 := hid (shape_bytes hsh 0 2 (by decide))
  have D2 := hid (shape_bytes hsh 2 2 (by decide))
  have D3 := hid (shape_bytes hsh 4 2 (by decide))
  have P1 : Hid (∀ B w', w'.cell? ⟨B, 0, none⟩ = some (.string s) → Calls Try.prog 32 #[.int .i64 0, .int .i64 2, .pointer (some ⟨B, 0, none⟩)] w' fun e w'' => e = .returned (.int .i64 (dgV s.data.toList 0 2)) ∧ w'' = w') := hid (fun B w' hc => datepart_any s B 0 2 2 w' hc (by omega) rfl (by omega) (by omega) D1.out)
  have P2 : Hid (∀ B w', w'.cell? ⟨B, 0, none⟩ = some (.string s) → Calls Try.prog 32 #[.int .i64 2, .int .i64 4, .pointer (some ⟨B, 0, none⟩)] w' fun e w'' => e = .returned (.int .i64 (dgV s.data.toList 2 2)) ∧ w'' = w') := hid (fun B w' hc => datepart_any s B 2 2 4 w' hc (by omega) rfl (by omega) (by omega) D2.out)
  have P3 : Hid (∀ B w', w'.cell? ⟨B, 0, none⟩ = some (.string s) → Calls Try.prog 32 #[.int .i64 4, .int .i64 6, .pointer (some ⟨B, 0, none⟩)] w' fun e w'' => e = .returned (.int .i64 (dgV s.data.toList 4 2)) ∧ w'' = w') := hid (fun B w' hc => datepart_any s B 4 2 6 w' hc (by omega) rfl (by omega) (by omega) D3.out)
  rw [hY] at P1
  rw [hM] at P2
  rw [hD] at P3
  rw [hsh, dcode_yes] at SH
  have hy2 : y ≤ 10000 := by rw [fullY] at hy; split at hy <;> omega
  have CK := hid (fun w' => datechecked_any y M D w' hy2 (by omega) (by omega))
  clear hsh hY hM hD D1 D2 D3
  generalize isDay y M D = b at *
  by_cases h8 : 80 ≤ Y
  · have e : (y : Int) = 2000 + (Y : Int) - 100 := by rw [hy, fullY, if_pos (by omega)]; omega
    rw [e] at CK
    have E := hid e
    clear e hy
    cases b
    all_goals
      go_enter Try.func18, Try.ntmps18
      go_wp2_with fail
      refine (SH.out _).mono ?_
      rintro e w1 ⟨rfl, h1⟩
      have hz := h1.size
      rw [World.size_alloc] at hz
      have b1 : Below w.heap.size w w1 := ((Below.refl _ w).alloc (Nat.le_refl _) _).trans (h1.mono (by simp))
      go_wp2_with fail
      refine (dateparts_any s _).mono ?_
      rintro e w2 ⟨rfl, hw2⟩
      obtain rfl := hw2.symm
      clear hw2
      have hcell : (w1.alloc (.cells #[.string s] 9)).cell? ⟨w1.heap.size, 0, none⟩ = some (.string s) := by simp [go_sem]
      go_wp2_with (go_at_call 32; (first | with_reducible refine (P1.out _ _ hcell).mono ?_ | with_reducible refine (P2.out _ _ hcell).mono ?_ | with_reducible refine (P3.out _ _ hcell).mono ?_); rintro e w' ⟨rfl, hw'⟩; obtain rfl := hw'.symm)
      refine (CK.out _).mono ?_
      rintro e w3 ⟨rfl, h3⟩
      have h12 := ((Below.refl (w.alloc (.cells #[.int .i64 0, .int .i64 0, .int .i64 0] 37)).heap.size w1).alloc h1.size (.cells #[.string s] 9)).trans (h3.mono (by simp; omega))
      obtain ⟨hc, hf⟩ := bcell (h1.trans h12)
      have b3 : Below w.heap.size w w3 := b1.trans (((Below.refl _ _).alloc (by omega) _).trans (h3.mono (by simp; omega)))
      have hz3 := h3.size
      rw [World.size_alloc] at hz3
      clear h12 h1 h3 hcell
      simp only [dayS, dcode, if_true, Bool.false_eq_true, if_false, E.out]
      go_wp2
      first
        | refine bodyPost_ret (v := .tuple #[dayS false y M D, .int .i64 (dcode false)]) (by simp [results, Try.results18, dayS, dcode, go_sem, *]) rfl ⟨rfl, ?_⟩
        | refine bodyPost_ret (v := .tuple #[dayS true y M D, .int .i64 (dcode true)]) (by simp [results, Try.results18, dayS, dcode, E.out, go_sem, *]) rfl ⟨rfl, ?_⟩
      go_grown
  · have e : (y : Int) = 2000 + (Y : Int) := by rw [hy, fullY, if_neg (by omega)]
    rw [e] at CK
    have E := hid e
    clear e hy
    cases b
    all_goals
      go_enter Try.func18, Try.ntmps18
      go_wp2_with fail
      refine (SH.out _).mono ?_
      rintro e w1 ⟨rfl, h1⟩
      have hz := h1.size
      rw [World.size_alloc] at hz
      have b1 : Below w.heap.size w w1 := ((Below.refl _ w).alloc (Nat.le_refl _) _).trans (h1.mono (by simp))
      go_wp2_with fail
      refine (dateparts_any s _).mono ?_
      rintro e w2 ⟨rfl, hw2⟩
      obtain rfl := hw2.symm
      clear hw2
      have hcell : (w1.alloc (.cells #[.string s] 9)).cell? ⟨w1.heap.size, 0, none⟩ = some (.string s) := by simp [go_sem]
      go_wp2_with (go_at_call 32; (first | with_reducible refine (P1.out _ _ hcell).mono ?_ | with_reducible refine (P2.out _ _ hcell).mono ?_ | with_reducible refine (P3.out _ _ hcell).mono ?_); rintro e w' ⟨rfl, hw'⟩; obtain rfl := hw'.symm)
      refine (CK.out _).mono ?_
      rintro e w3 ⟨rfl, h3⟩
      have h12 := ((Below.refl (w.alloc (.cells #[.int .i64 0, .int .i64 0, .int .i64 0] 37)).heap.size w1).alloc h1.size (.cells #[.string s] 9)).trans (h3.mono (by simp; omega))
      obtain ⟨hc, hf⟩ := bcell (h1.trans h12)
      have b3 : Below w.heap.size w w3 := b1.trans (((Below.refl _ _).alloc (by omega) _).trans (h3.mono (by simp; omega)))
      have hz3 := h3.size
      rw [World.size_alloc] at hz3
      clear h12 h1 h3 hcell
      simp only [dayS, dcode, if_true, Bool.false_eq_true, if_false, E.out]
      go_wp2
      first
        | refine bodyPost_ret (v := .tuple #[dayS false y M D, .int .i64 (dcode false)]) (by simp [results, Try.results18, dayS, dcode, go_sem, *]) rfl ⟨rfl, ?_⟩
        | refine bodyPost_ret (v := .tuple #[dayS true y M D, .int .i64 (dcode true)]) (by simp [results, Try.results18, dayS, dcode, E.out, go_sem, *]) rfl ⟨rfl, ?_⟩
      go_grown
end Go.Proofs.Ytpfmmmedhkgheaa
