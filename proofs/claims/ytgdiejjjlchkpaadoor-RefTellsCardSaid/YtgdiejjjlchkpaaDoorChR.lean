/-
  The document's own answers for sets of characters: plain, one, In.
-/
import Derived.Test.YtgdiejjjlchkpaaDoorByt
import Derived.Test.YtgdiejjjlchkpaaDoorChN
namespace Go.Proofs.YtgdiejjjlchkpaaDoor
open Go.RowKit

/-- Where a byte stands among the letters and digits. -/
theorem byte_seven (n : Nat) : n < 48 ∨ (48 ≤ n ∧ n ≤ 57) ∨ (57 < n ∧ 48 ≤ n ∧ n < 65) ∨ (65 ≤ n ∧ n ≤ 90) ∨ (90 < n ∧ 65 ≤ n ∧ 48 ≤ n ∧ 57 < n ∧ n < 97) ∨ (90 < n ∧ 65 ≤ n ∧ 48 ≤ n ∧ 57 < n ∧ 97 ≤ n ∧ n ≤ 122) ∨ (90 < n ∧ 65 ≤ n ∧ 48 ≤ n ∧ 57 < n ∧ 97 ≤ n ∧ 122 < n) := by omega

set_option maxHeartbeats 2000000 in
theorem refplain_any (c : UInt8) (b : Bool) (w : World) :
    Calls Tryd.prog 20 #[.int .u8 c.toNat, .bool b] w fun e w' => e = .returned (.bool (plainV c b)) ∧ w' = w := by
  have hv : plainV c b = ((decide (48 ≤ c.toNat) && decide (c.toNat ≤ 57)) || (decide (65 ≤ c.toNat) && decide (c.toNat ≤ 90)) || (b && (decide (97 ≤ c.toNat) && decide (c.toNat ≤ 122)))) := rfl
  rw [hv]
  clear hv
  generalize c.toNat = n
  cases b
  all_goals
    rcases byte_seven n with h | ⟨h1, h2⟩ | ⟨h1, h2, h3⟩ | ⟨h1, h2⟩ | ⟨h1, h2, h3, h4, h5⟩ | ⟨h1, h2, h3, h4, h5, h6⟩ | ⟨h1, h2, h3, h4, h5, h6⟩
  all_goals
    go_enter Tryd.func20, Tryd.ntmps20
    go_wp2
    go_returns
    refine ⟨congrArg (fun b => Ending.returned (Value.bool b)) ?_, rfl⟩
    refine Bool.eq_iff_iff.2 ⟨fun h => ?_, fun h => ?_⟩ <;> simp only [Bool.or_eq_true, Bool.and_eq_true, decide_eq_true_eq, Bool.false_eq_true, Bool.true_and, Bool.false_and, Bool.or_false] at h ⊢ <;> omega

set_option maxHeartbeats 1000000 in
theorem refone_any (c : UInt8) (s : ByteArray) (w : World) (hs : s.size ≤ 1000) :
    Calls Tryd.prog 21 #[.int .u8 c.toNat, .string s] w fun e w' => e = .returned (.bool (s.data.toList.contains c)) ∧ w' = w := by
  generalize hv : s.data.toList.contains c = v
  have HV := hid hv
  clear hv
  go_enter Tryd.func21, Tryd.ntmps21
  go_wp2
  go_loop [5] (fun i => ∃ k : Nat, k ≤ s.size ∧ i = .int .i64 k ∧ (s.data.toList.take k).contains c = false) (fun i => s.size - (intOf i).toNat)
  case atStart => exact ⟨0, Nat.zero_le _, rfl, rfl⟩
  case round =>
    obtain ⟨k, hk, rfl, hn⟩ := hrel
    have HN := hid hn
    clear hn
    by_cases hlt : k < s.size
    · have HS := hid (take_snoc s k hlt)
      by_cases he : s[k] = c
      · have hb : ((s[k].toNat : Int) == (c.toNat : Int)) = true := by rw [he]; exact beq_self_eq_true _
        have hyes : v = true := by
          rw [← HV.out, List.contains_iff_mem, ← he, ByteArray.getElem_eq_getElem_data]
          exact Array.mem_toList_iff.2 (Array.getElem_mem _)
        have HY := hid hyes
        clear he hyes
        go_wp2
        go_returns
        rw [HY.out]
        exact ⟨rfl, rfl⟩
      · have hb : ((s[k].toNat : Int) == (c.toNat : Int)) = false := by
          rw [beq_eq_false_iff_ne]; intro e; exact he (UInt8.toNat_inj.1 (by omega))
        have HE := hid he
        clear he
        go_wp2
        go_round
        case rel => exact ⟨k + 1, by omega, by go_num, by rw [HS.out]; simp only [List.contains_append, HN.out, Bool.false_or]; simpa using fun e => HE.out e.symm⟩
        case measure => simp [intOf]; omega
    · obtain rfl : k = s.size := by omega
      have hno : v = false := by have h := HN.out; rw [take_all, HV.out] at h; exact h
      have HY := hid hno
      clear hno
      go_wp2
      go_returns
      rw [HY.out]
      exact ⟨rfl, rfl⟩

set_option maxHeartbeats 2000000 in
theorem refin_any (n : Nat) (c : UInt8) (w : World) :
    Calls Tryd.prog 14 #[.int .u8 n, .int .u8 c.toNat] w fun e w' => e = .returned (.bool (inV n c)) ∧ w' = w := by
  have P1 := hid (fun w' => refplain_any c true w')
  have P0 := hid (fun w' => refplain_any c false w')
  have OX := hid (fun w' => refone_any c ⟨setX.toArray⟩ w' (by decide))
  have OY := hid (fun w' => refone_any c ⟨setY.toArray⟩ w' (by decide))
  have OZ := hid (fun w' => refone_any c ⟨setZ.toArray⟩ w' (by decide))
  have tX : (⟨setX.toArray⟩ : ByteArray).data.toList = setX := rfl
  have tY : (⟨setY.toArray⟩ : ByteArray).data.toList = setY := rfl
  have tZ : (⟨setZ.toArray⟩ : ByteArray).data.toList = setZ := rfl
  rw [tX] at OX
  rw [tY] at OY
  rw [tZ] at OZ
  rw [inV, inX, inY, inZ]
  generalize plainV c true = p1 at *
  generalize plainV c false = p0 at *
  generalize List.contains setX c = x at *
  generalize List.contains setY c = y at *
  generalize List.contains setZ c = z at *
  clear tX tY tZ
  by_cases hX : n = 88
  · subst hX
    rw [if_pos rfl]
    cases p1
    · go_enter Tryd.func14, Tryd.ntmps14
      go_wp2_with fail
      refine (P1.out _).mono ?_
      rintro e w1 ⟨rfl, rfl⟩
      go_wp2_with fail
      refine (OX.out _).mono ?_
      rintro e w2 ⟨rfl, rfl⟩
      go_wp2
      go_returns
      exact ⟨rfl, rfl⟩
    · go_enter Tryd.func14, Tryd.ntmps14
      go_wp2_with fail
      refine (P1.out _).mono ?_
      rintro e w1 ⟨rfl, rfl⟩
      go_wp2
      go_returns
      exact ⟨rfl, rfl⟩
  · have kX : ((n : Int) == 88) = false := by rw [beq_eq_false_iff_ne]; omega
    rw [if_neg hX]
    by_cases hY : n = 89
    · subst hY
      rw [if_pos rfl]
      cases p0
      · go_enter Tryd.func14, Tryd.ntmps14
        go_wp2_with fail
        refine (P0.out _).mono ?_
        rintro e w1 ⟨rfl, rfl⟩
        go_wp2_with fail
        refine (OY.out _).mono ?_
        rintro e w2 ⟨rfl, rfl⟩
        go_wp2
        go_returns
        exact ⟨rfl, rfl⟩
      · go_enter Tryd.func14, Tryd.ntmps14
        go_wp2_with fail
        refine (P0.out _).mono ?_
        rintro e w1 ⟨rfl, rfl⟩
        go_wp2
        go_returns
        exact ⟨rfl, rfl⟩
    · have kY : ((n : Int) == 89) = false := by rw [beq_eq_false_iff_ne]; omega
      rw [if_neg hY]
      by_cases hZ : n = 90
      · subst hZ
        rw [if_pos rfl]
        cases p1
        · go_enter Tryd.func14, Tryd.ntmps14
          go_wp2_with fail
          refine (P1.out _).mono ?_
          rintro e w1 ⟨rfl, rfl⟩
          go_wp2_with fail
          refine (OZ.out _).mono ?_
          rintro e w2 ⟨rfl, rfl⟩
          go_wp2
          go_returns
          exact ⟨rfl, rfl⟩
        · go_enter Tryd.func14, Tryd.ntmps14
          go_wp2_with fail
          refine (P1.out _).mono ?_
          rintro e w1 ⟨rfl, rfl⟩
          go_wp2
          go_returns
          exact ⟨rfl, rfl⟩
      · have kZ : ((n : Int) == 90) = false := by rw [beq_eq_false_iff_ne]; omega
        rw [if_neg hZ]
        clear hX hY hZ
        go_enter Tryd.func14, Tryd.ntmps14
        go_wp2
        go_returns
        exact ⟨rfl, rfl⟩
end Go.Proofs.YtgdiejjjlchkpaaDoor
