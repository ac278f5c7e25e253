/-
  Package date: lengths of months.
-/
import Derived.Test.YtpfmmmedhkgheaaDtQ
namespace Go.Proofs.Ytpfmmmedhkgheaa
open Go.RowKit

theorem month_at0 (w : World) : (Instr.index 50 (.agg #[Value.int IntKind.i64 31, Value.int IntKind.i64 28, Value.int IntKind.i64 31, Value.int IntKind.i64 30, Value.int IntKind.i64 31, Value.int IntKind.i64 30, Value.int IntKind.i64 31, Value.int IntKind.i64 31, Value.int IntKind.i64 30, Value.int IntKind.i64 31, Value.int IntKind.i64 30, Value.int IntKind.i64 31]) (Value.int IntKind.i64 0)).run Try.prog w = .ok (.int .i64 31) w := by kernel_rfl
theorem month_at1 (w : World) : (Instr.index 50 (.agg #[Value.int IntKind.i64 31, Value.int IntKind.i64 28, Value.int IntKind.i64 31, Value.int IntKind.i64 30, Value.int IntKind.i64 31, Value.int IntKind.i64 30, Value.int IntKind.i64 31, Value.int IntKind.i64 31, Value.int IntKind.i64 30, Value.int IntKind.i64 31, Value.int IntKind.i64 30, Value.int IntKind.i64 31]) (Value.int IntKind.i64 1)).run Try.prog w = .ok (.int .i64 28) w := by kernel_rfl
theorem month_at2 (w : World) : (Instr.index 50 (.agg #[Value.int IntKind.i64 31, Value.int IntKind.i64 28, Value.int IntKind.i64 31, Value.int IntKind.i64 30, Value.int IntKind.i64 31, Value.int IntKind.i64 30, Value.int IntKind.i64 31, Value.int IntKind.i64 31, Value.int IntKind.i64 30, Value.int IntKind.i64 31, Value.int IntKind.i64 30, Value.int IntKind.i64 31]) (Value.int IntKind.i64 2)).run Try.prog w = .ok (.int .i64 31) w := by kernel_rfl
theorem month_at3 (w : World) : (Instr.index 50 (.agg #[Value.int IntKind.i64 31, Value.int IntKind.i64 28, Value.int IntKind.i64 31, Value.int IntKind.i64 30, Value.int IntKind.i64 31, Value.int IntKind.i64 30, Value.int IntKind.i64 31, Value.int IntKind.i64 31, Value.int IntKind.i64 30, Value.int IntKind.i64 31, Value.int IntKind.i64 30, Value.int IntKind.i64 31]) (Value.int IntKind.i64 3)).run Try.prog w = .ok (.int .i64 30) w := by kernel_rfl
theorem month_at4 (w : World) : (Instr.index 50 (.agg #[Value.int IntKind.i64 31, Value.int IntKind.i64 28, Value.int IntKind.i64 31, Value.int IntKind.i64 30, Value.int IntKind.i64 31, Value.int IntKind.i64 30, Value.int IntKind.i64 31, Value.int IntKind.i64 31, Value.int IntKind.i64 30, Value.int IntKind.i64 31, Value.int IntKind.i64 30, Value.int IntKind.i64 31]) (Value.int IntKind.i64 4)).run Try.prog w = .ok (.int .i64 31) w := by kernel_rfl
theorem month_at5 (w : World) : (Instr.index 50 (.agg #[Value.int IntKind.i64 31, Value.int IntKind.i64 28, Value.int IntKind.i64 31, Value.int IntKind.i64 30, Value.int IntKind.i64 31, Value.int IntKind.i64 30, Value.int IntKind.i64 31, Value.int IntKind.i64 31, Value.int IntKind.i64 30, Value.int IntKind.i64 31, Value.int IntKind.i64 30, Value.int IntKind.i64 31]) (Value.int IntKind.i64 5)).run Try.prog w = .ok (.int .i64 30) w := by kernel_rfl
theorem month_at6 (w : World) : (Instr.index 50 (.agg #[Value.int IntKind.i64 31, Value.int IntKind.i64 28, Value.int IntKind.i64 31, Value.int IntKind.i64 30, Value.int IntKind.i64 31, Value.int IntKind.i64 30, Value.int IntKind.i64 31, Value.int IntKind.i64 31, Value.int IntKind.i64 30, Value.int IntKind.i64 31, Value.int IntKind.i64 30, Value.int IntKind.i64 31]) (Value.int IntKind.i64 6)).run Try.prog w = .ok (.int .i64 31) w := by kernel_rfl
theorem month_at7 (w : World) : (Instr.index 50 (.agg #[Value.int IntKind.i64 31, Value.int IntKind.i64 28, Value.int IntKind.i64 31, Value.int IntKind.i64 30, Value.int IntKind.i64 31, Value.int IntKind.i64 30, Value.int IntKind.i64 31, Value.int IntKind.i64 31, Value.int IntKind.i64 30, Value.int IntKind.i64 31, Value.int IntKind.i64 30, Value.int IntKind.i64 31]) (Value.int IntKind.i64 7)).run Try.prog w = .ok (.int .i64 31) w := by kernel_rfl
theorem month_at8 (w : World) : (Instr.index 50 (.agg #[Value.int IntKind.i64 31, Value.int IntKind.i64 28, Value.int IntKind.i64 31, Value.int IntKind.i64 30, Value.int IntKind.i64 31, Value.int IntKind.i64 30, Value.int IntKind.i64 31, Value.int IntKind.i64 31, Value.int IntKind.i64 30, Value.int IntKind.i64 31, Value.int IntKind.i64 30, Value.int IntKind.i64 31]) (Value.int IntKind.i64 8)).run Try.prog w = .ok (.int .i64 30) w := by kernel_rfl
theorem month_at9 (w : World) : (Instr.index 50 (.agg #[Value.int IntKind.i64 31, Value.int IntKind.i64 28, Value.int IntKind.i64 31, Value.int IntKind.i64 30, Value.int IntKind.i64 31, Value.int IntKind.i64 30, Value.int IntKind.i64 31, Value.int IntKind.i64 31, Value.int IntKind.i64 30, Value.int IntKind.i64 31, Value.int IntKind.i64 30, Value.int IntKind.i64 31]) (Value.int IntKind.i64 9)).run Try.prog w = .ok (.int .i64 31) w := by kernel_rfl
theorem month_at10 (w : World) : (Instr.index 50 (.agg #[Value.int IntKind.i64 31, Value.int IntKind.i64 28, Value.int IntKind.i64 31, Value.int IntKind.i64 30, Value.int IntKind.i64 31, Value.int IntKind.i64 30, Value.int IntKind.i64 31, Value.int IntKind.i64 31, Value.int IntKind.i64 30, Value.int IntKind.i64 31, Value.int IntKind.i64 30, Value.int IntKind.i64 31]) (Value.int IntKind.i64 10)).run Try.prog w = .ok (.int .i64 30) w := by kernel_rfl
theorem month_at11 (w : World) : (Instr.index 50 (.agg #[Value.int IntKind.i64 31, Value.int IntKind.i64 28, Value.int IntKind.i64 31, Value.int IntKind.i64 30, Value.int IntKind.i64 31, Value.int IntKind.i64 30, Value.int IntKind.i64 31, Value.int IntKind.i64 31, Value.int IntKind.i64 30, Value.int IntKind.i64 31, Value.int IntKind.i64 30, Value.int IntKind.i64 31]) (Value.int IntKind.i64 11)).run Try.prog w = .ok (.int .i64 31) w := by kernel_rfl

set_option maxHeartbeats 4000000 in
theorem datedays_any (y m : Nat) (w : World) (hy : y ≤ 10000) (hm : m ≤ 100) :
    Calls Try.prog 20 #[.int .i64 y, .int .i64 m] w fun e w' => e = .returned (.int .i64 (dmV y m : Nat)) ∧ w' = w := by
  have H := hid (dateleap_any y w hy)
  by_cases h0 : m = 0
  · subst h0
    have e : dmV y 0 = 0 := by simp [dmV]
    rw [e]
    go_enter Try.func20, Try.ntmps20
    go_wp2
    go_returns
    exact ⟨rfl, rfl⟩
  by_cases h1 : 12 < m
  · have e : dmV y m = 0 := by rw [dmV, if_neg (by omega)]
    rw [e]
    go_enter Try.func20, Try.ntmps20
    go_wp2
    go_returns
    exact ⟨rfl, rfl⟩
  obtain ⟨b, hb⟩ : ∃ b, leapB y = b := ⟨_, rfl⟩
  have e : dmV y m = if m = 2 then (if b then 29 else 28) else if m = 4 ∨ m = 6 ∨ m = 9 ∨ m = 11 then 30 else 31 := by rw [dmV, if_pos (by omega), hb]
  rw [e]
  rw [hb] at H
  clear e hb
  have hc : m = 1 ∨ m = 2 ∨ m = 3 ∨ m = 4 ∨ m = 5 ∨ m = 6 ∨ m = 7 ∨ m = 8 ∨ m = 9 ∨ m = 10 ∨ m = 11 ∨ m = 12 := by omega
  rcases hc with rfl | rfl | rfl | rfl | rfl | rfl | rfl | rfl | rfl | rfl | rfl | rfl
  · have X := month_at0
    go_enter Try.func20, Try.ntmps20
    go_wp2
    go_returns
    exact ⟨rfl, rfl⟩
  · have X := month_at1
    cases b
    all_goals
      go_enter Try.func20, Try.ntmps20
      go_wp2_with (go_at_call 31; with_reducible refine H.out.mono ?_; rintro e w1 ⟨rfl, hw⟩; obtain rfl := hw.symm)
      go_returns
      exact ⟨rfl, rfl⟩
  · have X := month_at2
    go_enter Try.func20, Try.ntmps20
    go_wp2
    go_returns
    exact ⟨rfl, rfl⟩
  · have X := month_at3
    go_enter Try.func20, Try.ntmps20
    go_wp2
    go_returns
    exact ⟨rfl, rfl⟩
  · have X := month_at4
    go_enter Try.func20, Try.ntmps20
    go_wp2
    go_returns
    exact ⟨rfl, rfl⟩
  · have X := month_at5
    go_enter Try.func20, Try.ntmps20
    go_wp2
    go_returns
    exact ⟨rfl, rfl⟩
  · have X := month_at6
    go_enter Try.func20, Try.ntmps20
    go_wp2
    go_returns
    exact ⟨rfl, rfl⟩
  · have X := month_at7
    go_enter Try.func20, Try.ntmps20
    go_wp2
    go_returns
    exact ⟨rfl, rfl⟩
  · have X := month_at8
    go_enter Try.func20, Try.ntmps20
    go_wp2
    go_returns
    exact ⟨rfl, rfl⟩
  · have X := month_at9
    go_enter Try.func20, Try.ntmps20
    go_wp2
    go_returns
    exact ⟨rfl, rfl⟩
  · have X := month_at10
    go_enter Try.func20, Try.ntmps20
    go_wp2
    go_returns
    exact ⟨rfl, rfl⟩
  · have X := month_at11
    go_enter Try.func20, Try.ntmps20
    go_wp2
    go_returns
    exact ⟨rfl, rfl⟩
end Go.Proofs.Ytpfmmmedhkgheaa
