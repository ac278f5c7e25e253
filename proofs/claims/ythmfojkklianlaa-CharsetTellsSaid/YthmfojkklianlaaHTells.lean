/-
  The walk of CharsetTells.
-/
import Derived.Test.YthmfojkklianlaaChW
namespace Go.Proofs.Ythmfojkklianlaa
open Go.RowKit

set_option maxHeartbeats 1000000 in
theorem hTells_long (n : Nat) (s : ByteArray) (w : World) (hs : s.size ≤ 9223372036854775807) (hl : 2000 < s.size) :
    Calls Try.prog 3 #[.int .u8 n, .string s] w fun e w' => e = .returned (.bool true) ∧ Below w.heap.size w w' := by
  go_enter Try.func3, Try.ntmps3
  go_wp2_with (go_at_call 6; with_reducible refine (chwakes_any _).mono ?_; rintro e w1 ⟨rfl, h1⟩)
  go_returns
  exact ⟨rfl, h1⟩

set_option maxRecDepth 100000 in
set_option maxHeartbeats 4000000 in
theorem hTells_none (n : Nat) (s : ByteArray) (hn : n ≤ 255) (w : World) (hs : s.size ≤ 2000) (h : ¬ (n = 88 ∨ n = 89 ∨ n = 90)) :
    Calls Try.prog 3 #[.int .u8 n, .string s] w fun e w' => e = .returned (.bool true) ∧ Below w.heap.size w w' := by
  have C := hid (fun w' => chcheck_any n s hn (by omega) w')
  have S := hid (fun w' => chsubst_any s (by omega) w')
  have R := hid (fun w' => refsubst_any s w' hs)
  rw [chkV, if_neg h] at C
  dsimp only at C
  have k1 : ((n : Int) != 88) = true := by rw [bne_iff_ne]; omega
  have k2 : ((n : Int) != 89) = true := by rw [bne_iff_ne]; omega
  have k3 : ((n : Int) != 90) = true := by rw [bne_iff_ne]; omega
  generalize (⟨(subL s.data.toList).toArray⟩ : ByteArray) = T at S R
  clear h
  go_enter Try.func3, Try.ntmps3
  go_wp2_with fail
  refine (C.out _).mono ?_
  rintro e w1 ⟨rfl, h1⟩
  go_wp2_with fail
  refine (S.out _).mono ?_
  rintro e w2 ⟨rfl, h2⟩
  have b2 := h1.trans (h2.mono h1.size)
  clear h1 h2
  go_wp2_with fail
  refine (R.out _).mono ?_
  rintro e w3 ⟨rfl, h3⟩
  have b3 := b2.trans (h3.mono b2.size)
  clear b2 h3
  go_wp2_with fail
  refine (chwakes_any _).mono ?_
  rintro e w4 ⟨rfl, h4⟩
  go_wp2
  go_returns
  exact ⟨rfl, b3.trans (h4.mono b3.size)⟩

set_option maxRecDepth 100000 in
set_option maxHeartbeats 4000000 in
theorem hTells_set (n : Nat) (s : ByteArray) (w : World) (hs : s.size ≤ 2000) (h : n = 88 ∨ n = 89 ∨ n = 90) :
    Calls Try.prog 3 #[.int .u8 n, .string s] w fun e w' => e = .returned (.bool true) ∧ Below w.heap.size w w' := by
  have hl : s.data.toList.length = s.size := by simp
  have C := hid (fun w' => chcheck_any n s (by omega) (by omega) w')
  have S := hid (fun w' => chsubst_any s (by omega) w')
  have R := hid (fun w' => refsubst_any s w' hs)
  have I := hid (fun (c : UInt8) w' => refin_any n c w')
  rw [chkV, if_pos h] at C
  dsimp only at C
  have HF := hid (fun (k : Nat) (h1 : (s.data.toList.take k).all (inV n) = true) (h2 : k ≤ s.data.toList.length) (h3 : k = s.data.toList.length ∨ k < s.data.toList.length ∧ inV n (s.data.toList.getD k 0) = false) => firstNo_eq (n := n) h1 h2 (h3.imp id (fun ⟨q, e⟩ => ⟨q, by rw [List.getD_eq_getElem?_getD, List.getElem?_eq_getElem q] at e; exact e⟩)))
  generalize (⟨(subL s.data.toList).toArray⟩ : ByteArray) = T at S R
  generalize firstNo n s.data.toList = f at C HF
  generalize hE : (if f = s.data.toList.length then (0 : Int) else 15) = e0 at C
  have HE := hid hE
  clear hE
  have hno : ((n : Int) != 88) = false ∨ ((n : Int) != 88) = true ∧ ((n : Int) != 89) = false ∨ ((n : Int) != 88) = true ∧ ((n : Int) != 89) = true ∧ ((n : Int) != 90) = false := by
    rcases h with rfl | rfl | rfl
    · exact .inl rfl
    · exact .inr (.inl ⟨rfl, rfl⟩)
    · exact .inr (.inr ⟨rfl, rfl, rfl⟩)
  clear h
  rcases hno with k1 | ⟨k1, k2⟩ | ⟨k1, k2, k3⟩
  all_goals
    go_enter Try.func3, Try.ntmps3
    go_wp2_with fail
    refine (C.out _).mono ?_
    rintro e w1 ⟨rfl, h1⟩
    go_wp2_with fail
    refine (S.out _).mono ?_
    rintro e w2 ⟨rfl, h2⟩
    have b2 := h1.trans (h2.mono h1.size)
    clear h1 h2
    go_wp2_with fail
    refine (R.out _).mono ?_
    rintro e w3 ⟨rfl, h3⟩
    have b3 := b2.trans (h3.mono b2.size)
    clear b2 h3
    go_wp2_with fail
    go_loop [7] (fun i => ∃ k : Nat, k ≤ s.size ∧ i = .int .i64 k ∧ (s.data.toList.take k).all (inV n) = true) (fun i => s.size - (intOf i).toNat)
  all_goals try (exact ⟨0, Nat.zero_le _, rfl, rfl⟩)
  all_goals
    obtain ⟨k, hk, rfl, ha⟩ := hrel
    have HA := hid ha
    clear ha
    by_cases hlt : k < s.size
    · have HS := hid (take_snoc s k hlt)
      have I1 := hid (fun w' => I.out s[k] w')
      have hat := hid (byte_at s k hlt)
      cases hi : inV n s[k]
      · rw [hi] at I1
        have hf := hid (HF.out k HA.out (by omega) (.inr ⟨by omega, by rw [hat.out]; exact hi⟩))
        have hfe : f = k := hf.out
        subst hfe
        have he0 : e0 = 15 := by rw [← HE.out, if_neg (by omega)]
        have hne : ((f : Int) == (s.size : Int)) = false := by rw [beq_eq_false_iff_ne]; omega
        clear hi HE
        subst he0
        go_wp2_with fail
        refine (I1.out _).mono ?_
        rintro e w4 ⟨rfl, hw4⟩
        obtain rfl := hw4.symm
        go_wp2_with fail
        refine (chwakes_any _).mono ?_
        rintro e w5 ⟨rfl, h5⟩
        go_wp2
        go_returns
        exact ⟨rfl, b3.trans (h5.mono b3.size)⟩
      · rw [hi] at I1
        have HI := hid hi
        clear hi
        go_wp2_with fail
        refine (I1.out _).mono ?_
        rintro e w4 ⟨rfl, hw4⟩
        obtain rfl := hw4.symm
        go_wp2_with fail
        go_round
        case rel => exact ⟨k + 1, by omega, by go_num, by rw [HS.out, List.all_append, HA.out]; simp [HI.out]⟩
        case measure => simp [intOf]; omega
    · obtain rfl : k = s.size := by omega
      have hf := HF.out s.size HA.out (by omega) (.inl hl.symm)
      have he0 : e0 = 0 := by rw [← HE.out, if_pos (by omega)]
      subst hf he0
      go_wp2_with fail
      refine (chwakes_any _).mono ?_
      rintro e w5 ⟨rfl, h5⟩
      go_wp2
      go_returns
      exact ⟨rfl, b3.trans (h5.mono b3.size)⟩

theorem hTells_any (t : Int) (ht : (Lit.int .u8 t).wf = true) (s : ByteArray) (hs : s.size ≤ 9223372036854775807) (w : World) :
    Calls Try.prog 3 #[.int .u8 t, .string s] w fun e w' => e = .returned (.bool true) ∧ Below w.heap.size w w' := by
  have e1 : IntKind.u8.min = 0 := by decide
  have e2 : IntKind.u8.max = 255 := by decide
  rw [Lit.wf, e1, e2, Bool.and_eq_true, decide_eq_true_eq, decide_eq_true_eq] at ht
  obtain ⟨n, rfl⟩ : ∃ n : Nat, t = (n : Int) := ⟨t.toNat, by omega⟩
  by_cases h : s.size ≤ 2000
  · by_cases hn : n = 88 ∨ n = 89 ∨ n = 90
    · exact hTells_set n s w h hn
    · exact hTells_none n s (by omega) w h hn
  · exact hTells_long n s w hs (by omega)
end Go.Proofs.Ythmfojkklianlaa
