/-
  The contracts of package decimal, first part: Good, power.
-/
import Derived.Test.YtjpndajbkemnlaaRows
import Derived.Test.YtjpndajbkemnlaaPlain
import Derived.WalkKit
import Derived.WalkSpells
import Derived.WalkLawsBesides
namespace Go.Proofs.Ytjpndajbkemnlaa
open Go.RowKit

set_option maxHeartbeats 400000 in
theorem good_any (g : Bool) (c s : Int) (w : World) :
    Calls Try.prog 24 #[.agg #[.bool g, .int .i64 c, .int .i64 s]] w fun e w' => e = .returned (.bool (goodB g c s)) ∧ Below w.heap.size w w' := by
  go_enter Try.func24, Try.ntmps24
  go_wp2
  all_goals go_ret
  all_goals refine ⟨?_, (Below.refl _ _).alloc (Nat.le_refl _) _⟩
  all_goals simp [goodB, *]
  all_goals omega

theorem bcell {W w1 : World} (hb : Below W.heap.size W w1) : (∀ b o, b < W.heap.size → w1.cell? ⟨b, o, none⟩ = W.cell? ⟨b, o, none⟩) ∧ (∀ b o, b < W.heap.size → w1.frozen? ⟨b, o, none⟩ = W.frozen? ⟨b, o, none⟩) :=
  ⟨fun b o h => hb.cell (p := ⟨b, o, none⟩) h, fun b o h => hb.frozen (p := ⟨b, o, none⟩) h⟩
/-- Block b holds a number. -/
def BoxNum (w : World) (b : Nat) (g : Bool) (c s : Int) : Prop :=
  b < w.heap.size ∧ w.cell? ⟨b, 0, none⟩ = some (.bool g) ∧ w.cell? ⟨b, 1, none⟩ = some (.int .i64 c) ∧ w.cell? ⟨b, 2, none⟩ = some (.int .i64 s)
theorem BoxNum.below {w w' : World} {b : Nat} {g : Bool} {c s : Int} (h : BoxNum w b g c s) (hb : Below w.heap.size w w') : BoxNum w' b g c s :=
  ⟨Nat.lt_of_lt_of_le h.1 hb.size, (hb.cell (p := ⟨b, 0, none⟩) h.1).trans h.2.1, (hb.cell (p := ⟨b, 1, none⟩) h.1).trans h.2.2.1, (hb.cell (p := ⟨b, 2, none⟩) h.1).trans h.2.2.2⟩
theorem BoxNum.new (w : World) (g : Bool) (c s : Int) (t : TypeId) : BoxNum (w.alloc (.cells #[.bool g, .int .i64 c, .int .i64 s] t)) w.heap.size g c s :=
  ⟨by simp, by simp [go_sem], by simp [go_sem], by simp [go_sem]⟩
theorem BoxNum.alloc {w : World} {b : Nat} {g : Bool} {c s : Int} (h : BoxNum w b g c s) (o : Obj) : BoxNum (w.alloc o) b g c s :=
  h.below ((Below.refl _ _).alloc (Nat.le_refl _) _)
theorem hid {p : Prop} (h : p) : Hid p := h
theorem ret_int {k : IntKind} {a b : Int} (h : a = b) : Ending.returned (.int k a) = .returned (.int k b) := by rw [h]
theorem int_eq {k : IntKind} {a b : Int} (h : a = b) : Value.int k a = Value.int k b := by rw [h]

set_option maxHeartbeats 400000 in
theorem power_any (k : Nat) (w : World) (hk : k ≤ 18) :
    Calls Try.prog 43 #[.int .i64 k] w fun e w' => e = .returned (.int .i64 (p10 k)) ∧ w = w' := by
  go_enter Try.func43, Try.ntmps43
  go_wp2
  go_loop [3, 5] (fun p i => ∃ j : Nat, j ≤ k ∧ i = .int .i64 j ∧ p = .int .i64 (p10 j)) (fun _ i => k - (intOf i).toNat)
  case atStart => exact ⟨0, Nat.zero_le _, rfl, rfl⟩
  case round =>
    obtain ⟨j, hj, rfl, rfl⟩ := hrel
    by_cases hlt : j < k
    · have h1 := p10_pos j
      have h2 := p10_17 j (by omega)
      go_wp2
      go_round
      case rel => exact ⟨j + 1, by omega, by go_num, rfl⟩
      case measure => simp [intOf]; omega
    · go_wp2
      go_ret
      obtain rfl : j = k := by omega
      exact ⟨rfl, rfl⟩
end Go.Proofs.Ytjpndajbkemnlaa
