/-
  The walk of DateTurns.
-/
import Derived.Test.YtpfmmmedhkgheaaDtW
import Derived.Test.YtpfmmmedhkgheaaDtU
namespace Go.Proofs.Ytpfmmmedhkgheaa
open Go.RowKit

theorem dt_size2 (l : List UInt8) : (⟨l.toArray⟩ : ByteArray).size = l.length := by rw [← ByteArray.size_data]; simp
theorem dt_cat (l r : List UInt8) : (⟨l.toArray⟩ : ByteArray) ++ ⟨r.toArray⟩ = ⟨(l ++ r).toArray⟩ := ib_str_eq (by simp)
theorem dt_list2 (l : List UInt8) : (⟨l.toArray⟩ : ByteArray).toList = l := by rw [Lib.toList_data]

set_option maxRecDepth 100000 in
set_option maxHeartbeats 8000000 in
theorem dTurns_any (n : Int) (hn : (Lit.int .u16 n).wf = true) (w : World) :
    Calls Try.prog 4 #[.int .u16 n] w fun e w' => e = .returned (.bool true) ∧ Below w.heap.size w w' := by
  have e1 : IntKind.u16.min = 0 := by decide
  have e2 : IntKind.u16.max = 65535 := by decide
  rw [Lit.wf, e1, e2, Bool.and_eq_true, decide_eq_true_eq, decide_eq_true_eq] at hn
  clear e1 e2
  obtain ⟨m, rfl⟩ : ∃ m : Nat, n = m := ⟨n.toNat, by omega⟩
  obtain ⟨K, r, hK, hkr, hr⟩ := day_in (n := m % 36525) (Nat.mod_lt _ (by omega))
  have hx := text_day hK hr
  have hL := textL_len K r
  have T1 := hid (fun w' => reftext_any K r w' hK hr)
  rw [← hkr] at hx T1
  have hk : m % 36525 < 36525 := Nat.mod_lt _ (by omega)
  have h0 : 0 ≤ xmlV (textL K r) := by omega
  have hmt := toM_day h0
  have hback := toX_toM h0
  have hml := toM_len hL
  have hmom := mom_mid h0
  have A := hid (fun w' => datetomt_any ⟨(textL K r).toArray⟩ w' (by rw [dt_size2]; omega))
  have B := hid (fun w' => datetoxml_any ⟨(toM (textL K r)).toArray⟩ w' (by rw [dt_size2]; omega))
  have C := hid (fun w' => dateday_any ⟨(textL K r).toArray⟩ w' (by rw [dt_size2]; omega))
  have D := hid (fun w' => datecheckmoment_any ⟨(textL K r ++ [84, 48, 48, 58, 48, 48, 58, 48, 48]).toArray⟩ w' (by rw [dt_size2]; simp; omega))
  have q1 : decide (0 ≤ xmlV (textL K r)) = true := decide_eq_true h0
  have q2 : decide (0 ≤ mtV (toM (textL K r))) = true := decide_eq_true (by omega)
  dsimp only at A B C D
  rw [q1] at A
  rw [q2, hback] at B
  rw [if_pos h0, q1, hx] at C
  rw [hmom] at D
  simp only [dcode, oneOf, if_true] at A B C D
  have hcat := dt_cat (textL K r) [84, 48, 48, 58, 48, 48, 58, 48, 48]
  rw [← hcat] at D
  have zm := dt_size2 (toM (textL K r))
  rw [hml] at zm
  have zs := dt_size2 (textL K r)
  rw [hL] at zs
  have hlast : m % 36525 = 36524 → (⟨(textL K r).toArray⟩ : ByteArray) = ⟨#[50, 48, 55, 57, 45, 49, 50, 45, 51, 49]⟩ := fun e => by
    rw [last_day (l := textL K r) (by rw [hx, e]; rfl)]; rfl
  have hnext : m % 36525 ≠ 36524 → ∃ t : List UInt8, (∀ w', Calls Try.prog 17 #[.int .i64 ((m % 36525 : Nat) + 1)] w' fun e w'' => e = .returned (.string ⟨t.toArray⟩) ∧ Below w'.heap.size w' w'') ∧
      (∀ w', Calls Try.prog 9 #[.string ⟨t.toArray⟩] w' fun e w'' => e = .returned (.tuple #[.int .i64 ((m % 36525 : Nat) + 1), .int .i64 0]) ∧ Below w'.heap.size w' w'') ∧
      Op.bytesLess (⟨(textL K r).toArray⟩ : ByteArray).toList (⟨t.toArray⟩ : ByteArray).toList = true := fun ne => by
    obtain ⟨J, q, hJ, hjq, hq⟩ := day_in (n := m % 36525 + 1) (by omega)
    have hy := text_day hJ hq
    rw [← hjq] at hy
    have g0 : 0 ≤ xmlV (textL J q) := by omega
    refine ⟨textL J q, fun w' => ?_, fun w' => ?_, ?_⟩
    · have := reftext_any J q w' hJ hq
      rw [← hjq] at this
      exact this
    · have := dateday_any ⟨(textL J q).toArray⟩ w' (by rw [dt_size2, textL_len]; omega)
      dsimp only at this
      rw [if_pos g0, decide_eq_true g0, hy] at this
      exact this
    · rw [dt_list2, dt_list2, (xml_order h0 g0).1, hx, hy, decide_eq_true_eq]
      omega
  clear hcat hback hmt hmom hx hL q1 q2 h0 hkr
  generalize hS : (⟨(textL K r).toArray⟩ : ByteArray) = S at *
  generalize hM : (⟨(toM (textL K r)).toArray⟩ : ByteArray) = Mt at *
  clear hS hM hml hr hK
  have hS2 : (S.toList == S.toList) = true := beq_self_eq_true _
  by_cases hl : m % 36525 = 36524
  · have hSl := hlast hl
    have hS3 : S.toList = [50, 48, 55, 57, 45, 49, 50, 45, 51, 49] := by rw [hSl, Lib.toList_data]
    clear hlast hnext hSl
    have hS4 : (S.toList == [50, 48, 55, 57, 45, 49, 50, 45, 51, 49]) = true := by rw [hS3]; rfl
    clear hS3
    have hkI : (m : Int) % 36525 = 36524 := by omega
    rw [hl] at T1 C
    go_enter Try.func4, Try.ntmps4
    go_wp2_with fail
    refine (T1.out _).mono ?_
    rintro e w1 ⟨rfl, b1⟩
    go_wp2_with fail
    refine (A.out _).mono ?_
    rintro e w2 ⟨rfl, h2⟩
    have b2 := b1.trans (h2.mono b1.size)
    clear b1 h2
    go_wp2_with fail
    refine (B.out _).mono ?_
    rintro e w3 ⟨rfl, h3⟩
    have b3 := b2.trans (h3.mono b2.size)
    clear b2 h3
    go_wp2_with fail
    refine (C.out _).mono ?_
    rintro e w4 ⟨rfl, h4⟩
    have b4 := b3.trans (h4.mono b3.size)
    clear b3 h4
    go_wp2_with fail
    refine (D.out _).mono ?_
    rintro e w5 ⟨rfl, h5⟩
    have b5 := b4.trans (h5.mono b4.size)
    clear b4 h5
    go_wp2_with fail
    refine (dtwakes_any _).mono ?_
    rintro e w7 ⟨rfl, h7⟩
    have b7 := b5.trans (h7.mono b5.size)
    go_wp2
    go_returns
    exact ⟨rfl, b7⟩
  · obtain ⟨t, T2, C2, hlt⟩ := hnext hl
    have T2' := hid T2
    have C2' := hid C2
    clear hlast hnext T2 C2
    generalize (⟨t.toArray⟩ : ByteArray) = Tn at *
    go_enter Try.func4, Try.ntmps4
    go_wp2_with fail
    refine (T1.out _).mono ?_
    rintro e w1 ⟨rfl, b1⟩
    go_wp2_with fail
    refine (A.out _).mono ?_
    rintro e w2 ⟨rfl, h2⟩
    have b2 := b1.trans (h2.mono b1.size)
    clear b1 h2
    go_wp2_with fail
    refine (B.out _).mono ?_
    rintro e w3 ⟨rfl, h3⟩
    have b3 := b2.trans (h3.mono b2.size)
    clear b2 h3
    go_wp2_with fail
    refine (C.out _).mono ?_
    rintro e w4 ⟨rfl, h4⟩
    have b4 := b3.trans (h4.mono b3.size)
    clear b3 h4
    go_wp2_with fail
    refine (D.out _).mono ?_
    rintro e w5 ⟨rfl, h5⟩
    have b5 := b4.trans (h5.mono b4.size)
    clear b4 h5
    go_wp2_with fail
    refine (T2'.out _).mono ?_
    rintro e w6 ⟨rfl, h6⟩
    have b6 := b5.trans (h6.mono b5.size)
    clear b5 h6
    go_wp2_with fail
    refine (C2'.out _).mono ?_
    rintro e w8 ⟨rfl, h8⟩
    have b8 := b6.trans (h8.mono b6.size)
    clear b6 h8
    go_wp2_with fail
    refine (dtwakes_any _).mono ?_
    rintro e w7 ⟨rfl, h7⟩
    have b7 := b8.trans (h7.mono b8.size)
    go_wp2
    go_returns
    exact ⟨rfl, b7⟩
end Go.Proofs.Ytpfmmmedhkgheaa
