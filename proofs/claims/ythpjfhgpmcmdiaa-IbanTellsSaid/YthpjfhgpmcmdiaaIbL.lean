/-
  The document's own answers for account numbers: Length.
-/
import Derived.Test.YthpjfhgpmcmdiaaIbN
import Derived.Test.YthpjfhgpmcmdiaaDecA
import Derived.Deep.QuietTactic
import Derived.BigQuiet
import Derived.Handy
import Derived.Lib.Walk
import Derived.Lib.Strings
import Derived.Lib.Slices
import Derived.BigCall
import Derived.BigGuard
import Derived.Laws.Strings3
import Derived.Deep.DeepCutAuto
namespace Go.Proofs.Ythpjfhgpmcmdiaa
open Go.RowKit

theorem ib_below_drewN {B : Nat} {a w : World} (h : Below B a w) (n : Nat) : Below B a (w.drewN n) := h.trans ⟨rfl, rfl, rfl, Nat.le_refl _, fun _ _ => rfl⟩
theorem ib_str_eq {a b : ByteArray} (h : a.data.toList = b.data.toList) : a = b := by
  cases a; cases b
  exact congrArg ByteArray.mk (Array.toList_inj.1 h)
theorem toList_yes {a b : ByteArray} (h : a = b) : (a.toList == b.toList) = true := by rw [h]; exact beq_self_eq_true _
theorem toList_no {a b : ByteArray} (h : ¬ a = b) : (a.toList == b.toList) = false := by
  rw [beq_eq_false_iff_ne, ByteArray.toList_eq, ByteArray.toList_eq]
  exact fun e => h (ib_str_eq e)

theorem wrap_id (n : Int) (h : -9223372036854775808 ≤ n) (h' : n ≤ 9223372036854775807) : IntKind.i64.wrap n = n := by
  rw [IntKind.wrap_i64]
  omega

set_option maxHeartbeats 2000000 in
theorem refLength_any (s : ByteArray) (w : World) :
    Calls Try.prog 10 #[.string s] w fun e w' => e = .returned (.tuple #[.int .i64 ((lenV s.data.toList).1 : Nat), .bool (lenV s.data.toList).2]) ∧ Below w.heap.size w w' := by
  generalize hv : lenV s.data.toList = v
  obtain ⟨d, is⟩ := v
  have HV := hid hv
  clear hv
  dsimp only
  go_enter Try.func10, Try.ntmps10
  go_wp2
  rw [ibStr_lit _ ?lit]
  case lit => rfl
  have hz := ibStr_size
  have FA := hid ibStr_at
  have FN := hid ibStr_num
  generalize ibStr = S at hz FA FN ⊢
  go_loop [5] (fun i => ∃ j : Nat, j ≤ 52 ∧ i = .int .i64 ((4 * j : Nat) : Int) ∧ NoC2 s.data.toList j) (fun i => 208 - (intOf i).toNat)
  case atStart => exact ⟨0, by omega, rfl, noC2_zero _⟩
  case round =>
    obtain ⟨j, hj, rfl, hm⟩ := hrel
    have HM := hid hm
    clear hm
    by_cases hjl : j < 52
    · have hx := hid (FA.out j hjl)
      have h4 : 4 * (j : Int) + 4 ≤ 208 := by omega
      have h2 : 4 * (j : Int) + 2 < 208 := by omega
      have h3 : 4 * (j : Int) + 3 < 208 := by omega
      by_cases hE0 : S.extract (4 * j) (4 * j + 2) = s
      · have hq := hid (lenV_hit hjl (hx.out.symm.trans (by rw [hE0])))
        have hE := toList_yes hE0
        obtain ⟨n1, n2, n3, n4, n5⟩ := FN.out j hjl
        have b1 := byt_get S (4 * j + 2) (by omega)
        have b2 := byt_get S (4 * j + 3) (by omega)
        rw [← b1] at n1 n2 n5
        rw [← b2] at n3 n4 n5
        have h5 := hid n5
        clear hE0 b1 b2 n5
        have e0 := hid (show 10 * ((S[4 * j + 2].toNat : Int) - 48) + ((S[4 * j + 3].toNat : Int) - 48) = (((ibTab.getD j ([], 0)).2 : Nat) : Int) by rw [← h5.out]; omega)
        have k2 : 4 * j + 2 < 208 := by omega
        have k3 : 4 * j + 3 < 208 := by omega
        have z2 : 0 ≤ 4 * (j : Int) + 2 := by omega
        have z3 : 0 ≤ 4 * (j : Int) + 3 := by omega
        have t2 : (4 * (j : Int) + 2).toNat = 4 * j + 2 := by omega
        have t3 : (4 * (j : Int) + 3).toNat = 4 * j + 3 := by omega
        have q1 := wrap_id (4 * (j : Int) + 2) (by omega) (by omega)
        have q2 := wrap_id (4 * (j : Int) + 3) (by omega) (by omega)
        have q3 : IntKind.u8.wrap ((S[4 * j + 2].toNat : Int) - 48) = (S[4 * j + 2].toNat : Int) - 48 := IntWalk.u8_in _ ⟨by omega, by omega⟩
        have q4 : IntKind.u8.wrap ((S[4 * j + 3].toNat : Int) - 48) = (S[4 * j + 3].toNat : Int) - 48 := IntWalk.u8_in _ ⟨by omega, by omega⟩
        have q5 := wrap_id ((S[4 * j + 2].toNat : Int) - 48) (by omega) (by omega)
        have q6 := wrap_id ((S[4 * j + 3].toNat : Int) - 48) (by omega) (by omega)
        have q7 := wrap_id (10 * ((S[4 * j + 2].toNat : Int) - 48)) (by omega) (by omega)
        have q8 := wrap_id (10 * ((S[4 * j + 2].toNat : Int) - 48) + ((S[4 * j + 3].toNat : Int) - 48)) (by omega) (by omega)
        go_wp2
        go_quiet (fail)
        go_wp2
        go_returns
        have hq := hq.out
        rw [HV.out] at hq
        cases hq
        refine ⟨?_, ib_below_drewN (Below.refl _ _) _⟩
        rw [← e0.out]
        rfl
      · have hM := hid (noC2_succ HM.out (fun e => hE0 (ib_str_eq (hx.out.trans e))))
        have hE := toList_no hE0
        clear hE0
        go_wp2
        go_round
        case rel => exact ⟨j + 1, by omega, by go_num, hM.out⟩
        case measure => simp [intOf]; omega
    · obtain rfl : j = 52 := by omega
      have h5 := lenV_miss HM.out
      go_wp2
      go_returns
      rw [HV.out] at h5
      cases h5
      exact ⟨rfl, Below.refl _ _⟩
end Go.Proofs.Ythpjfhgpmcmdiaa
