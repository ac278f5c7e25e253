/-
  RefMakes: UETRs of unlike numbers are unlike; the number is in them, digit by digit; references are identifications.
-/
import Derived.Test.YtgdiejjjlchkpaaDoorRfW
import Derived.BigQuiet
import Derived.IntWalk
namespace Go.Proofs.YtgdiejjjlchkpaaDoor
open Go.RowKit

/-- The UETR of a number, as a text. -/
def mkS (n : Nat) : ByteArray := ⟨(mkL n).toArray⟩
theorem mkS_lst (n : Nat) : (mkS n).data.toList = mkL n := by simp [mkS]
theorem mkS_size (n : Nat) : (mkS n).size = 36 := rfl
theorem mkS_ext (n i j : Nat) : ((mkS n).extract i j).data.toList = ((mkL n).take j).drop i := by rw [ext_lst, mkS_lst]
/-- The number's digits, put together. -/
def mkH (n : Nat) : ByteArray := (mkS n).extract 0 8 ++ (mkS n).extract 9 13 ++ (mkS n).extract 15 18 ++ (mkS n).extract 20 21
theorem mkH_lst (n : Nat) : (mkH n).data.toList = hxs n := by
  simp only [mkH, ByteArray.data_append, Array.toList_append, mkS_ext]
  rfl
theorem mkH_size (n : Nat) : (mkH n).size = 16 := by
  have e : (mkH n).data.toList.length = 16 := by rw [mkH_lst]; rfl
  simpa using e
theorem mkH_at (n k : Nat) (h : k < (mkH n).size) : (mkH n)[k] = hx n k := by
  rw [← byte_at, mkH_lst, hxs_at _ _ (by rw [mkH_size] at h; exact h)]
theorem mkS_00 (n : Nat) : (((mkS n).extract 21 23).toList == [48, 48]) = true := by
  rw [ByteArray.toList_eq, mkS_ext]; exact beq_iff_eq.2 rfl
theorem mkS_0s (n : Nat) : (((mkS n).extract 24 36).toList == [48, 48, 48, 48, 48, 48, 48, 48, 48, 48, 48, 48]) = true := by
  rw [ByteArray.toList_eq, mkS_ext]; exact beq_iff_eq.2 rfl
theorem mkS_14 (n : Nat) (h : 14 < (mkS n).size) : (((mkS n)[14].toNat : Int) == 52) = true := by
  rw [← byte_at, mkS_lst]; rfl
theorem mkS_19 (n : Nat) (h : 19 < (mkS n).size) : (((mkS n)[19].toNat : Int) == 56) = true := by
  rw [← byte_at, mkS_lst]; rfl
theorem mkS_eq {n m : Nat} (hn : n < 18446744073709551616) (hm : m < 18446744073709551616) : ((mkS n).toList == (mkS m).toList) = ((n : Int) == (m : Int)) := by
  by_cases h : n = m
  · subst h
    rw [beq_self_eq_true, beq_self_eq_true]
  · have h2 : ¬ mkS n = mkS m := fun e => h (mk_inj hn hm (by rw [← mkS_lst, ← mkS_lst, e]))
    rw [toList_no h2]
    symm
    rw [beq_eq_false_iff_ne]; omega
theorem hxV_two {c : UInt8} (h : hxV c = true) : (48 ≤ c.toNat ∧ c.toNat ≤ 57 ∧ hxN c = c.toNat - 48) ∨ (97 ≤ c.toNat ∧ c.toNat ≤ 102 ∧ hxN c = c.toNat - 87) := by
  simp only [hxV, Bool.or_eq_true, Bool.and_eq_true, decide_eq_true_eq] at h
  rcases h with ⟨h1, h2⟩ | ⟨h1, h2⟩
  · exact .inl ⟨h1, h2, by rw [hxN, if_neg (by omega)]⟩
  · exact .inr ⟨h1, h2, by rw [hxN, if_pos h1]⟩

set_option maxRecDepth 100000 in
set_option maxHeartbeats 8000000 in
theorem rMakes_nat (n m : Nat) (hn : n < 18446744073709551616) (hm : m < 18446744073709551616) (s : ByteArray) (w : World) (hT : RTab w) :
    Calls Tryd.prog 4 #[.int .u64 n, .int .u64 m, .string s] w fun e w' => e = .returned (.bool true) ∧ Below w.heap.size w w' := by
  by_cases hlong : 100 < s.size
  · have hg : (s.size : Int) > 100 := by omega
    clear hlong
    have hT0 := hid hT
    clear hT
    go_enter Tryd.func4, Tryd.ntmps4
    go_wp2_with fail
    refine (rfwakes_any _ hT0.out).mono ?_
    rintro e w1 ⟨rfl, b1⟩
    go_wp2
    go_returns
    exact ⟨rfl, b1⟩
  · have hg : ¬ (s.size : Int) > 100 := by omega
    have MA := hid (fun w' (h : RTab w') => refmake_any n hn w' h)
    have MB := hid (fun w' (h : RTab w') => refmake_any m hm w' h)
    rw [show (⟨(mkL n).toArray⟩ : ByteArray) = mkS n from rfl] at MA
    rw [show (⟨(mkL m).toArray⟩ : ByteArray) = mkS m from rfl] at MB
    have U := hid (fun w' => rfuetr_any (mkS n) (by rw [mkS_size]; decide) w')
    rw [mkS_lst, mk_ut] at U
    have A := hid (fun w' (h : RTab w') => refcheck_any s (by omega) w' h)
    have B := hid (fun w' (h : RTab w') => refid_any s (by omega) w' h)
    have hpq : rfV s.data.toList 16 = true → rfV s.data.toList 35 = true := rf_more
    have EQ := hid (mkS_eq hn hm)
    have HL := hid (mkH_at n)
    have HZ := hid (mkH_size n)
    have HE := hid (show (mkS n).extract 0 8 ++ (mkS n).extract 9 13 ++ (mkS n).extract 15 18 ++ (mkS n).extract 20 21 = mkH n from rfl)
    have e1 := mkS_00 n
    have e2 := mkS_0s n
    have l14 : 14 < (mkS n).size := by rw [mkS_size]; decide
    have l19 : 19 < (mkS n).size := by rw [mkS_size]; decide
    have e3 := mkS_14 n l14
    have e4 := mkS_19 n l19
    have z1 : ((mkS n).extract 0 8).size = 8 := by rw [ByteArray.size_extract, mkS_size]; rfl
    have z2 : ((mkS n).extract 9 13).size = 4 := by rw [ByteArray.size_extract, mkS_size]; rfl
    have z3 : ((mkS n).extract 15 18).size = 3 := by rw [ByteArray.size_extract, mkS_size]; rfl
    have z4 : ((mkS n).extract 20 21).size = 1 := by rw [ByteArray.size_extract, mkS_size]; rfl
    have z5 : ((mkS n).extract 0 8 ++ (mkS n).extract 9 13).size = 12 := by rw [ByteArray.size_append, z1, z2]
    have z6 : ((mkS n).extract 0 8 ++ (mkS n).extract 9 13 ++ (mkS n).extract 15 18).size = 15 := by rw [ByteArray.size_append, z5, z3]
    have hz : (mkS n).size = 36 := mkS_size n
    have HV := hid (hx_v n)
    have HX := hid (hx_step n)
    have HB := hid (fun k => Nat.div_le_self n (16 ^ k))
    generalize mkH n = H at HL HZ HE
    generalize mkS n = a at *
    generalize mkS m = b at *
    generalize rfV s.data.toList 16 = p at A hpq
    generalize rfV s.data.toList 35 = q at B hpq
    have HT := hid (fun w' (hb : Below w.heap.size w w') => hT.below hb)
    have hT0 := hid hT
    clear hlong hT
    go_enter Tryd.func4, Tryd.ntmps4
    go_wp2_with fail
    refine (MA.out _ hT0.out).mono ?_
    rintro e w1 ⟨rfl, b1⟩
    go_wp2_with fail
    refine (MB.out _ (HT.out _ b1)).mono ?_
    rintro e w2 ⟨rfl, h2⟩
    have b2 := b1.trans (h2.mono b1.size)
    clear b1 h2
    go_wp2_with fail
    refine (U.out _).mono ?_
    rintro e w' ⟨rfl, hw'⟩
    obtain rfl := hw'.symm
    have EQ := EQ.out
    cases hnm : ((n : Int) == (m : Int))
    all_goals
      rw [hnm] at EQ
      cases p
      all_goals
        first | (obtain rfl : q = true := hpq rfl) | skip
        try rw [show errR true = 0 from rfl] at A
        try rw [show errR true = 0 from rfl] at B
        try rw [show errR false = 17 from rfl] at A
        clear hpq
        go_wp2_with fail
        refine (A.out _ (HT.out _ b2)).mono ?_
        rintro e w3 ⟨rfl, h3⟩
        have b3 := b2.trans (h3.mono b2.size)
        clear b2 h3
        first
          | (go_wp2_with fail
             refine (B.out _ (HT.out _ b3)).mono ?_
             rintro e w4 ⟨rfl, h4⟩
             have b4 := b3.trans (h4.mono b3.size)
             clear b3 h4
             go_wp2)
          | (have b4 := b3
             clear b3
             go_wp2)
        go_quiet (fail)
        rw [HE.out]
        have hH := HZ.out
        have b5 := ib_below_drewN b4 nq
        generalize World.drewN _ nq = w5 at b5 ⊢
        clear b4
        go_wp2
        go_loop [10, 11] (fun x i => ∃ k : Nat, k ≤ 16 ∧ i = .int .i64 k ∧ x = .int .u64 ((n / 16 ^ (16 - k) : Nat) : Int)) (fun _ i => 16 - (intOf i).toNat)
        case atStart => exact ⟨0, by omega, rfl, by rw [Nat.div_eq_of_lt (by simpa using hn)]; rfl⟩
        case round =>
          obtain ⟨k, hk, rfl, rfl⟩ := hrel
          by_cases hlt : k < 16
          · have hk2 : k < H.size := by omega
            have hc := HL.out k hk2
            have hx1 := HX.out k hlt
            have hx2 := HB.out (16 - (k + 1))
            rw [← hx1] at hx2
            generalize n / 16 ^ (16 - k) = X at hx1 hx2 ⊢
            have hcv := hxV_two (HV.out k)
            rw [← hc] at hcv hx1 hx2
            clear hc
            rcases hcv with ⟨c1, c2, c3⟩ | ⟨c1, c2, c3⟩
            all_goals
              rw [c3] at hx1 hx2
              have HY := hid hx1
              clear c3 hx1
              go_wp2
              go_round
              case rel =>
                refine ⟨k + 1, by omega, by go_num, ?_⟩
                rw [← HY.out]
                refine congrArg (Value.int IntKind.u64) ?_
                omega
              case measure => simp [intOf]; omega
          · obtain rfl : k = 16 := by omega
            rw [show n / 16 ^ (16 - 16) = n by simp]
            have en : ((n : Int) == (n : Int)) = true := beq_self_eq_true _
            go_wp2_with fail
            refine (rfwakes_any _ (HT.out _ b5)).mono ?_
            rintro e w6 ⟨rfl, h6⟩
            have b6 := b5.trans (h6.mono b5.size)
            clear b5 h6
            go_wp2
            go_returns
            exact ⟨rfl, b6⟩

theorem u64_nat (t : Int) (h : (Lit.int .u64 t).wf = true) : ∃ n : Nat, t = n ∧ n < 18446744073709551616 := by
  have e1 : IntKind.u64.min = 0 := by decide
  have e2 : IntKind.u64.max = 18446744073709551615 := by decide
  rw [Lit.wf, e1, e2, Bool.and_eq_true, decide_eq_true_eq, decide_eq_true_eq] at h
  exact ⟨t.toNat, by omega, by omega⟩
theorem rMakes_any (t : Int) (ht : (Lit.int .u64 t).wf = true) (u : Int) (hu : (Lit.int .u64 u).wf = true) (s : ByteArray) (_hs : s.size ≤ 9223372036854775807) (w : World) (hT : RTab w) :
    Calls Tryd.prog 4 #[.int .u64 t, .int .u64 u, .string s] w fun e w' => e = .returned (.bool true) ∧ Below w.heap.size w w' := by
  obtain ⟨n, rfl, hn⟩ := u64_nat t ht
  obtain ⟨m, rfl, hm⟩ := u64_nat u hu
  exact rMakes_nat n m hn hm s w hT
end Go.Proofs.YtgdiejjjlchkpaaDoor
