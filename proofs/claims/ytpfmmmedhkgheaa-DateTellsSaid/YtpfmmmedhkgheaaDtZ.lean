/-
  Package date: a text's day.
-/
import Derived.Test.YtpfmmmedhkgheaaDtI
import Derived.Test.YtpfmmmedhkgheaaDtJ
namespace Go.Proofs.Ytpfmmmedhkgheaa
open Go.RowKit

theorem dcode_no : dcode false = 16 := rfl
theorem dcode_yes : dcode true = 0 := rfl

set_option maxRecDepth 100000 in
set_option maxHeartbeats 4000000 in
theorem datereadxml_any (s : ByteArray) (w : World) (hs : s.size ≤ 9223372036854775807) :
    Calls Try.prog 19 #[.string s] w fun e w' => (∃ y m d : Nat, e = .returned (.tuple #[dayS (decide (0 ≤ xmlV s.data.toList)) y m d, .int .i64 (dcode (decide (0 ≤ xmlV s.data.toList)))]) ∧
      (0 ≤ xmlV s.data.toList → 1980 ≤ y ∧ y ≤ 2079 ∧ 1 ≤ m ∧ m ≤ 12 ∧ 1 ≤ d ∧ d ≤ lenM y m ∧ xmlV s.data.toList = (dayN y m d : Nat))) ∧ Below w.heap.size w w' := by
  have SH := hid (fun w' => dateshaped_any s ⟨#[48, 48, 48, 48, 45, 48, 48, 45, 48, 48]⟩ w' hs (by decide))
  have hF : (⟨#[48, 48, 48, 48, 45, 48, 48, 45, 48, 48]⟩ : ByteArray).data.toList = formX := rfl
  rw [hF] at SH
  clear hF
  cases hsh : shapeV s.data.toList formX with
  | false =>
    have hn := xml_unshaped hsh
    rw [hsh, dcode_no] at SH
    rw [decide_eq_false hn]
    generalize xmlV s.data.toList = x at *
    clear hsh
    go_enter Try.func19, Try.ntmps19
    go_wp2_with fail
    refine (SH.out _).mono ?_
    rintro e w1 ⟨rfl, h1⟩
    have hz := h1.size
    rw [World.size_alloc] at hz
    obtain ⟨hc, hf⟩ := bcell h1
    have b1 : Below w.heap.size w w1 := ((Below.refl _ w).alloc (Nat.le_refl _) _).trans (h1.mono (by simp))
    go_wp2
    refine bodyPost_ret (v := .tuple #[dayS false 0 0 0, .int .i64 (dcode false)]) (by simp [results, Try.results19, dayS, dcode, go_sem, *]) rfl ⟨⟨0, 0, 0, rfl, fun h => absurd h (by omega)⟩, ?_⟩
    go_grown
  | true =>
    obtain ⟨hl, Y, M, D, hY, hM, hD, bY, bM, bD, hv⟩ := xml_shaped hsh
    have hsz : s.size = 10 := by simpa using hl
    have D1 := hid (shape_bytes hsh 0 4 (by decide))
    have D2 := hid (shape_bytes hsh 5 2 (by decide))
    have D3 := hid (shape_bytes hsh 8 2 (by decide))
    have P1 : Hid (∀ B w', w'.cell? ⟨B, 0, none⟩ = some (.string s) → Calls Try.prog 32 #[.int .i64 0, .int .i64 4, .pointer (some ⟨B, 0, none⟩)] w' fun e w'' => e = .returned (.int .i64 (dgV s.data.toList 0 4)) ∧ w'' = w') := hid (fun B w' hc => datepart_any s B 0 4 4 w' hc (by omega) rfl (by omega) (by omega) D1.out)
    have P2 : Hid (∀ B w', w'.cell? ⟨B, 0, none⟩ = some (.string s) → Calls Try.prog 32 #[.int .i64 5, .int .i64 7, .pointer (some ⟨B, 0, none⟩)] w' fun e w'' => e = .returned (.int .i64 (dgV s.data.toList 5 2)) ∧ w'' = w') := hid (fun B w' hc => datepart_any s B 5 2 7 w' hc (by omega) rfl (by omega) (by omega) D2.out)
    have P3 : Hid (∀ B w', w'.cell? ⟨B, 0, none⟩ = some (.string s) → Calls Try.prog 32 #[.int .i64 8, .int .i64 10, .pointer (some ⟨B, 0, none⟩)] w' fun e w'' => e = .returned (.int .i64 (dgV s.data.toList 8 2)) ∧ w'' = w') := hid (fun B w' hc => datepart_any s B 8 2 10 w' hc (by omega) rfl (by omega) (by omega) D3.out)
    rw [hY] at P1
    rw [hM] at P2
    rw [hD] at P3
    have CK := hid (fun w' => datechecked_any Y M D w' (by omega) (by omega) (by omega))
    have hb : decide (0 ≤ xmlV s.data.toList) = isDay Y M D := by rw [hv]; simp [dayV_nat]
    rw [hb]
    have hd := hid (fun h => dayV_is (y := Y) (m := M) (d := D) h)
    have hx := hid (show 0 ≤ xmlV s.data.toList → isDay Y M D = true from fun h => by rw [← hb]; exact decide_eq_true h)
    rw [← hv] at hd
    generalize xmlV s.data.toList = x at *
    generalize isDay Y M D = b at *
    rw [hsh, dcode_yes] at SH
    clear hsh hY hM hD D1 D2 D3 hb hv hl
    have hfin : ∀ w', Below w.heap.size w w' → (∃ y m d : Nat, Ending.returned (.tuple #[dayS b Y M D, .int .i64 (dcode b)]) = .returned (.tuple #[dayS b y m d, .int .i64 (dcode b)]) ∧
        (0 ≤ x → 1980 ≤ y ∧ y ≤ 2079 ∧ 1 ≤ m ∧ m ≤ 12 ∧ 1 ≤ d ∧ d ≤ lenM y m ∧ x = (dayN y m d : Nat))) ∧ Below w.heap.size w w' := fun w' h => ⟨⟨Y, M, D, rfl, fun h0 => hd.out (hx.out h0)⟩, h⟩
    have HF := hid hfin
    clear hfin hd hx
    generalize hQ : (fun (e : Ending) (w' : World) => (∃ y m d : Nat, e = .returned (.tuple #[dayS b y m d, .int .i64 (dcode b)]) ∧
      (0 ≤ x → 1980 ≤ y ∧ y ≤ 2079 ∧ 1 ≤ m ∧ m ≤ 12 ∧ 1 ≤ d ∧ d ≤ lenM y m ∧ x = (dayN y m d : Nat))) ∧ Below w.heap.size w w') = Q
    have HQ : Hid (∀ w', Below w.heap.size w w' → Q (.returned (.tuple #[dayS b Y M D, .int .i64 (dcode b)])) w') := fun w' h => by rw [← hQ]; exact HF.out w' h
    clear hQ HF
    cases b
    all_goals
      go_enter Try.func19, Try.ntmps19
      go_wp2_with fail
      refine (SH.out _).mono ?_
      rintro e w1 ⟨rfl, h1⟩
      have hz := h1.size
      rw [World.size_alloc] at hz
      have b1 : Below w.heap.size w w1 := ((Below.refl _ w).alloc (Nat.le_refl _) _).trans (h1.mono (by simp))
      go_wp2_with fail
      refine (dateparts_any s _).mono ?_
      rintro e w2 ⟨rfl, hw2⟩
      obtain rfl := hw2.symm
      clear hw2
      have hcell : (w1.alloc (.cells #[.string s] 9)).cell? ⟨w1.heap.size, 0, none⟩ = some (.string s) := by simp [go_sem]
      go_wp2_with (go_at_call 32; (first | with_reducible refine (P1.out _ _ hcell).mono ?_ | with_reducible refine (P2.out _ _ hcell).mono ?_ | with_reducible refine (P3.out _ _ hcell).mono ?_); rintro e w' ⟨rfl, hw'⟩; obtain rfl := hw'.symm)
      refine (CK.out _).mono ?_
      rintro e w3 ⟨rfl, h3⟩
      have h12 := ((Below.refl (w.alloc (.cells #[.int .i64 0, .int .i64 0, .int .i64 0] 37)).heap.size w1).alloc h1.size (.cells #[.string s] 9)).trans (h3.mono (by simp; omega))
      obtain ⟨hc, hf⟩ := bcell (h1.trans h12)
      have b3 : Below w.heap.size w w3 := b1.trans (((Below.refl _ _).alloc (by omega) _).trans (h3.mono (by simp; omega)))
      have hz3 := h3.size
      rw [World.size_alloc] at hz3
      clear h12 h1 h3 hcell
      simp only [dayS, dcode, if_true, Bool.false_eq_true, if_false] at HQ ⊢
      go_wp2
      refine bodyPost_ret (by simp [results, Try.results19, go_sem, *]) rfl (HQ.out _ ?_)
      go_grown
end Go.Proofs.Ytpfmmmedhkgheaa
