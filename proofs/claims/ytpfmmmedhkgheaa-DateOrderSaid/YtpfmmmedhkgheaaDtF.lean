/-
  Package date: moments.
-/
import Derived.Test.YtpfmmmedhkgheaaDtA
namespace Go.Proofs.Ytpfmmmedhkgheaa
open Go.RowKit

theorem mom_shaped {l : List UInt8} (h : shapeV l formT = true) : l.length = 19 ∧ ∃ H M S : Nat, dgV l 11 2 = (H : Int) ∧ dgV l 14 2 = (M : Int) ∧ dgV l 17 2 = (S : Int) ∧ H ≤ 99 ∧ M ≤ 99 ∧ S ≤ 99 ∧
    momV l = ([decide (0 ≤ xmlV (l.take 10)), decide ((0 : Int) ≤ H ∧ (H : Int) ≤ 23), decide ((0 : Int) ≤ M ∧ (M : Int) ≤ 59), decide ((0 : Int) ≤ S ∧ (S : Int) ≤ 59)].all id) := by
  have hl : l.length = 19 := (shape_at h).1
  obtain ⟨H, hH, bH⟩ := shape_num h 11 2 (by decide)
  obtain ⟨M, hM, bM⟩ := shape_num h 14 2 (by decide)
  obtain ⟨S, hS, bS⟩ := shape_num h 17 2 (by decide)
  refine ⟨hl, H, M, S, hH, hM, hS, by omega, by omega, by omega, ?_⟩
  have h1 := shape_same h (k := 10) (d := 84) rfl (by decide)
  have h2 := shape_same h (k := 13) (d := 58) rfl (by decide)
  have h3 := shape_same h (k := 16) (d := 58) rfl (by decide)
  have g1 : l.getD 10 0 = 84 := by rw [List.getD_eq_getElem?_getD, h1]; rfl
  have g2 : l.getD 13 0 = 58 := by rw [List.getD_eq_getElem?_getD, h2]; rfl
  have g3 : l.getD 16 0 = 58 := by rw [List.getD_eq_getElem?_getD, h3]; rfl
  rw [momV, momA, momB, hl, g1, g2, g3, hH, hM, hS, Bool.eq_iff_iff]
  simp only [Bool.and_eq_true, decide_eq_true_eq, List.all_cons, List.all_nil, id, Bool.and_true, beq_self_eq_true, true_and]
  constructor
  · rintro ⟨h0, ⟨⟨⟨⟨h1, h2⟩, h3⟩, h4⟩, h5⟩, h6⟩; exact ⟨h0, by omega, by omega, by omega⟩
  · rintro ⟨h0, h1, h2, h3⟩; exact ⟨h0, ⟨⟨⟨⟨by omega, by omega⟩, by omega⟩, by omega⟩, by omega⟩, by omega⟩
theorem nine {l : List UInt8} (h : l.length = 9) : ∃ a b c d e f g i j, l = [a, b, c, d, e, f, g, i, j] := by
  match l, h with
  | [a, b, c, d, e, f, g, i, j], _ => exact ⟨a, b, c, d, e, f, g, i, j, rfl⟩
theorem mom_unshaped {l : List UInt8} (h : shapeV l formT = false) : momV l = false := by
  rcases hm : momV l with _ | _
  · rfl
  rw [momV, momA, momB] at hm
  simp only [Bool.and_eq_true, decide_eq_true_eq, beq_iff_eq] at hm
  obtain ⟨⟨⟨⟨⟨hl, hx⟩, g1⟩, g2⟩, g3⟩, ⟨⟨⟨⟨k1, k2⟩, k3⟩, k4⟩, k5⟩, k6⟩ := hm
  obtain ⟨x, y, a, b, c, d, e, f, hp, hx, hy, ha, hb, hc, hd, he, hf, -⟩ := xml_parts hx
  obtain ⟨t, h1, h2, q, m1, m2, r, s1, s2, hq⟩ := nine (l := l.drop 10) (by simp [hl])
  have hall : l = [x, y, a, b, 45, c, d, 45, e, f, t, h1, h2, q, m1, m2, r, s1, s2] := by
    rw [← List.take_append_drop 10 l, hp, hq]; rfl
  rw [hall] at g1 g2 g3 k1 k3 k5 h
  have g1 : t = 84 := g1
  have g2 : q = 58 := g2
  have g3 : r = 58 := g3
  subst g1; subst g2; subst g3
  obtain ⟨a1, a2, a3, a4, -⟩ := dig_two (l := [x, y, a, b, 45, c, d, 45, e, f, 84, h1, h2, 58, m1, m2, 58, s1, s2]) (f := 11) (p := h1) (q := h2) rfl rfl k1
  obtain ⟨b1, b2, b3, b4, -⟩ := dig_two (l := [x, y, a, b, 45, c, d, 45, e, f, 84, h1, h2, 58, m1, m2, 58, s1, s2]) (f := 14) (p := m1) (q := m2) rfl rfl k3
  obtain ⟨c1, c2, c3, c4, -⟩ := dig_two (l := [x, y, a, b, 45, c, d, 45, e, f, 84, h1, h2, 58, m1, m2, 58, s1, s2]) (f := 17) (p := s1) (q := s2) rfl rfl k5
  have : shapeV [x, y, a, b, 45, c, d, 45, e, f, 84, h1, h2, 58, m1, m2, 58, s1, s2] formT = true := by
    simp [shapeV, formT, fitB, hx, hy, ha, hb, hc, hd, he, hf, a1, a2, a3, a4, b1, b2, b3, b4, c1, c2, c3, c4]
  rw [this] at h; cases h

set_option maxRecDepth 100000 in
set_option maxHeartbeats 8000000 in
theorem datecheckmoment_any (s : ByteArray) (w : World) (hs : s.size ≤ 9223372036854775807) :
    Calls Try.prog 15 #[.string s] w fun e w' => e = .returned (.int .i64 (dcode (momV s.data.toList))) ∧ Below w.heap.size w w' := by
  have SH := hid (fun w' => dateshaped_any s ⟨#[48, 48, 48, 48, 45, 48, 48, 45, 48, 48, 84, 48, 48, 58, 48, 48, 58, 48, 48]⟩ w' hs (by decide))
  have hF : (⟨#[48, 48, 48, 48, 45, 48, 48, 45, 48, 48, 84, 48, 48, 58, 48, 48, 58, 48, 48]⟩ : ByteArray).data.toList = formT := rfl
  rw [hF] at SH
  clear hF
  cases hsh : shapeV s.data.toList formT with
  | false =>
    have hn := mom_unshaped hsh
    rw [hsh, dcode_no] at SH
    rw [hn, dcode_no]
    clear hsh hn
    go_enter Try.func15, Try.ntmps15
    go_wp2_with fail
    refine (SH.out _).mono ?_
    rintro e w1 ⟨rfl, h1⟩
    go_wp2
    go_returns
    exact ⟨rfl, h1⟩
  | true =>
    obtain ⟨hl, H, M, S, hH, hM, hS, bH, bM, bS, hv⟩ := mom_shaped hsh
    have hsz : s.size = 19 := by simpa using hl
    have D1 := hid (shape_bytes hsh 11 2 (by decide))
    have D2 := hid (shape_bytes hsh 14 2 (by decide))
    have D3 := hid (shape_bytes hsh 17 2 (by decide))
    have P1 : Hid (∀ B w', w'.cell? ⟨B, 0, none⟩ = some (.string s) → Calls Try.prog 32 #[.int .i64 11, .int .i64 13, .pointer (some ⟨B, 0, none⟩)] w' fun e w'' => e = .returned (.int .i64 (dgV s.data.toList 11 2)) ∧ w'' = w') := hid (fun B w' hc => datepart_any s B 11 2 13 w' hc (by omega) rfl (by omega) (by omega) D1.out)
    have P2 : Hid (∀ B w', w'.cell? ⟨B, 0, none⟩ = some (.string s) → Calls Try.prog 32 #[.int .i64 14, .int .i64 16, .pointer (some ⟨B, 0, none⟩)] w' fun e w'' => e = .returned (.int .i64 (dgV s.data.toList 14 2)) ∧ w'' = w') := hid (fun B w' hc => datepart_any s B 14 2 16 w' hc (by omega) rfl (by omega) (by omega) D2.out)
    have P3 : Hid (∀ B w', w'.cell? ⟨B, 0, none⟩ = some (.string s) → Calls Try.prog 32 #[.int .i64 17, .int .i64 19, .pointer (some ⟨B, 0, none⟩)] w' fun e w'' => e = .returned (.int .i64 (dgV s.data.toList 17 2)) ∧ w'' = w') := hid (fun B w' hc => datepart_any s B 17 2 19 w' hc (by omega) rfl (by omega) (by omega) D3.out)
    rw [hH] at P1
    rw [hM] at P2
    rw [hS] at P3
    rw [hsh, dcode_yes] at SH
    have CX := hid (fun w' => datecheckxml_any (s.extract 0 10) w' (by simp only [ByteArray.size_extract]; omega))
    rw [ext_lst, List.drop_zero] at CX
    obtain ⟨b0, hb0⟩ : ∃ b, decide (0 ≤ xmlV (s.data.toList.take 10)) = b := ⟨_, rfl⟩
    obtain ⟨b1, hb1⟩ : ∃ b, decide ((0 : Int) ≤ H ∧ (H : Int) ≤ 23) = b := ⟨_, rfl⟩
    obtain ⟨b2, hb2⟩ : ∃ b, decide ((0 : Int) ≤ M ∧ (M : Int) ≤ 59) = b := ⟨_, rfl⟩
    obtain ⟨b3, hb3⟩ : ∃ b, decide ((0 : Int) ≤ S ∧ (S : Int) ≤ 59) = b := ⟨_, rfl⟩
    have W1 := hid (fun w' => datewithin_any H 0 23 b1 w' hb1)
    have W2 := hid (fun w' => datewithin_any M 0 59 b2 w' hb2)
    have W3 := hid (fun w' => datewithin_any S 0 59 b3 w' hb3)
    have F := hid (fun B w' => datefirst_any B 4 [b0, b1, b2, b3] w' rfl (by omega))
    rw [hb0, hb1, hb2, hb3] at hv
    rw [hv]
    rw [hb0] at CX
    generalize [b0, b1, b2, b3].all id = R at *
    clear hsh hl hH hM hS hv D1 D2 D3 hb0 hb1 hb2 hb3
    have e10 : (s.extract 0 10).size = 10 := by simp [hsz]
    go_enter Try.func15, Try.ntmps15
    go_wp2_with fail
    refine (SH.out _).mono ?_
    rintro e w1 ⟨rfl, h1⟩
    go_wp2_with fail
    refine (dateparts_any s _).mono ?_
    rintro e w2 ⟨rfl, hw2⟩
    obtain rfl := hw2.symm
    clear hw2
    have hcell0 : (w1.alloc (.cells #[.string s] 9)).cell? ⟨w1.heap.size, 0, none⟩ = some (.string s) := by simp [go_sem]
    go_wp2_with fail
    refine (CX.out _).mono ?_
    rintro e w3 ⟨rfl, h3⟩
    have hcell : w3.cell? ⟨w1.heap.size, 0, none⟩ = some (.string s) := by rw [(bcell h3).1 _ _ (by simp)]; exact hcell0
    clear hcell0
    have b3' : Below w.heap.size w w3 := h1.trans (((Below.refl _ _).alloc h1.size _).trans (h3.mono (by have := h1.size; simp; omega)))
    clear h1 h3
    go_wp2_with (first
      | (go_at_call 32; (first | with_reducible refine (P1.out _ _ hcell).mono ?_ | with_reducible refine (P2.out _ _ hcell).mono ?_ | with_reducible refine (P3.out _ _ hcell).mono ?_); rintro e w' ⟨rfl, hw'⟩; obtain rfl := hw'.symm)
      | (go_at_call 27; (first | with_reducible refine (W1.out _).mono ?_ | with_reducible refine (W2.out _).mono ?_ | with_reducible refine (W3.out _).mono ?_); rintro e w' ⟨rfl, hw'⟩; obtain rfl := hw'.symm))
    refine (F.out _ _ ?_).mono ?_
    · intro j hj
      have h : j = 0 ∨ j = 1 ∨ j = 2 ∨ j = 3 := by omega
      rcases h with rfl | rfl | rfl | rfl <;> simp [go_sem]
    rintro e w4 ⟨rfl, hw4⟩
    obtain rfl := hw4.symm
    clear hw4
    go_wp2
    go_returns
    refine ⟨rfl, ?_⟩
    exact b3'.alloc b3'.size _
end Go.Proofs.Ytpfmmmedhkgheaa
