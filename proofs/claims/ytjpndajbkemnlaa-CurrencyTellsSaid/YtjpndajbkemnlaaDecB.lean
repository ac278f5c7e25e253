/-
  The contracts of package decimal, second part: together and its closure, signed, cmp.Compare.
-/
import Derived.Test.YtjpndajbkemnlaaDecA
import Derived.Deep.QuietTactic
import Derived.BigQuiet
import Derived.Handy

namespace Go.Proofs.Ytjpndajbkemnlaa
open Go.RowKit

def TogetherPost (w : World) (m : Int) (e : Ending) (w' : World) : Prop :=
  ∃ n, e = .returned (.func (.func 42) #[] #[.pointer (some ⟨n, 0, none⟩)]) ∧ w.heap.size ≤ n ∧ n < w'.heap.size ∧ w'.cell? ⟨n, 0, none⟩ = some (.int .i64 m) ∧ Below w.heap.size w w'

theorem below3 (w : World) (a b c : Obj) : Below w.heap.size w (((w.alloc a).alloc b).alloc c) :=
  (((Below.refl _ _).alloc (Nat.le_refl _) _).alloc (by simp) _).alloc (by simp; omega) _
theorem new_cell (w : World) (v : Value) (t : TypeId) : (w.alloc (.cells #[v] t)).cell? ⟨w.heap.size, 0, none⟩ = some v := by
  simp [go_sem]

set_option maxHeartbeats 400000 in
theorem together_any (g g' : Bool) (c c' s s' : Int) (w : World) :
    Calls Try.prog 29 #[.agg #[.bool g, .int .i64 c, .int .i64 s], .agg #[.bool g', .int .i64 c', .int .i64 s']] w (TogetherPost w (max s s')) := by
  go_enter Try.func29, Try.ntmps29
  go_wp2
  all_goals
    go_ret
    refine ⟨_, rfl, ?_, ?_, ?_, below3 _ _ _ _⟩
    · omega
    · simp
    · simp [go_sem]; omega

theorem wrap64_id {x : Int} (h : -2000000000000000000 ≤ x) (h' : x ≤ 2000000000000000000) : wrap64 x = x := IntWalk.wrap64_in _ ⟨by omega, by omega⟩

set_option maxHeartbeats 400000 in
theorem together1_any (g : Bool) (c s m : Int) (n : Nat) (w : World) (h0 : 0 ≤ c) (_h1 : c < 1000000000000000000) (_h2 : 0 ≤ s) (h3 : s ≤ m) (h4 : m ≤ 5) (hn : w.cell? ⟨n, 0, none⟩ = some (.int .i64 m)) :
    Calls Try.prog 42 #[.agg #[.bool g, .int .i64 c, .int .i64 s], .pointer (some ⟨n, 0, none⟩)] w fun e w' => e = .returned (.int .i64 (atScale g c s m)) ∧ Below w.heap.size w w' := by
  have hn' : ∀ o, (w.alloc o).cell? ⟨n, 0, none⟩ = some (.int .i64 m) := fun o => cell_later ((Below.refl _ _).alloc (Nat.le_refl _) _) hn
  obtain ⟨k, hk⟩ : ∃ k : Nat, (k : Int) = m - s := ⟨(m - s).toNat, by omega⟩
  have hk5 : k ≤ 5 := by omega
  have hkt : (m - s).toNat = k := by omega
  have hp := p10_pos k
  have hp' := p10_5 k hk5
  unfold atScale
  rw [hkt]
  have HK : Hid ((k : Int) = m - s) := hk
  clear hk hkt hn
  have hd0 : 0 ≤ 2000000000000000000 / p10 k := Int.ediv_nonneg (by omega) (by omega)
  have hd1 : 2000000000000000000 / p10 k ≤ 2000000000000000000 := Int.ediv_le_self _ (by omega)
  have hb : Below w.heap.size w (w.alloc (.cells #[.bool g, .int .i64 c, .int .i64 s] 23)) := (Below.refl _ _).alloc (Nat.le_refl _) _
  by_cases hlt : c < 2000000000000000000 / p10 k
  · have HB := hid (mul_bd h0 hp hlt)
    cases g
    all_goals
      go_enter Try.func42, Try.ntmps42
      go_wp2_with (go_at_call 43; rw [← HK.out]; refine (power_any k _ (by omega)).mono ?_; rintro e w' ⟨rfl, rfl⟩)
      go_quiet (fail)
      go_wp2
      go_ret
      refine ⟨?_, below_drewN hb _⟩
      have := HB.out
      have e1 := wrap64_id (x := c * p10 k) (by omega) (by omega)
      have e2 := wrap64_id (x := -(c * p10 k)) (by omega) (by omega)
      simp [e1, e2]
  · cases g
    all_goals
      go_enter Try.func42, Try.ntmps42
      go_wp2_with (go_at_call 43; rw [← HK.out]; refine (power_any k _ (by omega)).mono ?_; rintro e w' ⟨rfl, rfl⟩)
      go_quiet (fail)
      go_wp2
      go_ret
      exact ⟨by simp, below_drewN hb _⟩

set_option maxHeartbeats 400000 in
theorem signed_small (x s : Int) (w : World) (h0 : -1000000000000000000 < x) (h1 : x < 1000000000000000000) :
    Calls Try.prog 30 #[.int .i64 x, .int .i64 s] w fun e w' => e = .returned (.tuple #[.agg #[.bool (decide (x < 0)), .int .i64 (max x (-x)), .int .i64 s], .int .i64 0]) ∧ Below w.heap.size w w' := by
  by_cases hx : x < 0
  all_goals
    go_enter Try.func30, Try.ntmps30
    go_wp2
    refine bodyPost_ret (v := .tuple #[.agg #[.bool (decide (x < 0)), .int .i64 (max x (-x)), .int .i64 s], .int .i64 0]) ?_ rfl ⟨rfl, ?_⟩
    · simp [results, Try.results30, go_sem]
      all_goals omega
    · go_grown

set_option maxHeartbeats 400000 in
theorem signed_great (x s : Int) (w : World) (h0 : x ≤ -1000000000000000000 ∨ 1000000000000000000 ≤ x) (h1 : -4000000000000000000 ≤ x) (h2 : x ≤ 4000000000000000000) :
    Calls Try.prog 30 #[.int .i64 x, .int .i64 s] w fun e w' => e = .returned (.tuple #[.agg #[.bool false, .int .i64 0, .int .i64 0], .int .i64 11]) ∧ Below w.heap.size w w' := by
  by_cases hx : x < 0
  all_goals
    go_enter Try.func30, Try.ntmps30
    go_wp2
    go_returns
    exact ⟨rfl, by go_grown⟩

end Go.Proofs.Ytjpndajbkemnlaa
