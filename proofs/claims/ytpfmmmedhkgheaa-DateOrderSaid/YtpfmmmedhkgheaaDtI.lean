/-
  Package date: only a day that there is is let through.
-/
import Derived.Test.YtpfmmmedhkgheaaDtS
import Derived.Test.YtpfmmmedhkgheaaDtV
import Derived.StillTailTactics
import Derived.Deep.DeepCutAuto
namespace Go.Proofs.Ytpfmmmedhkgheaa
open Go.RowKit

/-- A day as the package keeps it: its parts, or noughts. -/
def dayS (b : Bool) (y m d : Nat) : Value := if b then .agg #[.int .i64 (y : Int), .int .i64 (m : Int), .int .i64 (d : Int)] else .agg #[.int .i64 0, .int .i64 0, .int .i64 0]
theorem day_three (y m d : Nat) : isDay y m d = ([decide ((1980 : Int) ≤ y ∧ (y : Int) ≤ 2079), decide ((1 : Int) ≤ m ∧ (m : Int) ≤ 12), decide ((1 : Int) ≤ d ∧ (d : Int) ≤ (dmV y m : Nat))].all id) := by
  rw [Bool.eq_iff_iff]
  simp only [isDay, Bool.and_eq_true, decide_eq_true_eq, List.all_cons, List.all_nil, id, Bool.and_true]
  constructor
  · rintro ⟨⟨⟨⟨⟨h1, h2⟩, h3⟩, h4⟩, h5⟩, h6⟩
    rw [dmV_len (by omega) (by omega) (by omega) (by omega)]
    simp only [Int.toNat_natCast] at h6
    exact ⟨⟨h1, h2⟩, ⟨h3, h4⟩, h5, h6⟩
  · rintro ⟨⟨h1, h2⟩, ⟨h3, h4⟩, h5, h6⟩
    rw [dmV_len (by omega) (by omega) (by omega) (by omega)] at h6
    simp only [Int.toNat_natCast]
    exact ⟨⟨⟨⟨⟨h1, h2⟩, h3⟩, h4⟩, h5⟩, h6⟩

theorem region_tail_drew {P : Program} {id : Nat} {Q : Exit → Act → World → Prop} {a : Act} {w : World} {l : List Oper} (n : Nat) (hm : P.follows .mixedOrders = true) (hB : Region.lexTailB .any l.toArray n = true)
    (h : wpStill P l.toArray w.drew (fun a' => wpList P l.toArray Q (l.drop n) a' w.drew) (l.take n) a) : (Code.region id l.toArray true).wp P Q a w :=
  wp_region_still_tail n hm hB h

set_option maxRecDepth 100000 in
set_option maxHeartbeats 4000000 in
theorem datechecked_any (y m d : Nat) (w : World) (hy : y ≤ 10000) (hm : m ≤ 100) (_ : d ≤ 100) :
    Calls Try.prog 30 #[.agg #[.int .i64 (y : Int), .int .i64 (m : Int), .int .i64 (d : Int)]] w fun e w' => e = .returned (.tuple #[dayS (isDay y m d) y m d, .int .i64 (dcode (isDay y m d))]) ∧ Below w.heap.size w w' := by
  have h3 := day_three y m d
  obtain ⟨b1, hb1⟩ : ∃ b, decide ((1980 : Int) ≤ y ∧ (y : Int) ≤ 2079) = b := ⟨_, rfl⟩
  obtain ⟨b2, hb2⟩ : ∃ b, decide ((1 : Int) ≤ m ∧ (m : Int) ≤ 12) = b := ⟨_, rfl⟩
  obtain ⟨b3, hb3⟩ : ∃ b, decide ((1 : Int) ≤ d ∧ (d : Int) ≤ (dmV y m : Nat)) = b := ⟨_, rfl⟩
  have W1 := hid (fun w' => datewithin_any y 1980 2079 b1 w' hb1)
  have W2 := hid (fun w' => datewithin_any m 1 12 b2 w' hb2)
  have W3 := hid (fun w' => datewithin_any d 1 (dmV y m : Nat) b3 w' hb3)
  have DM := hid (fun w' => datedays_any y m w' hy hm)
  have F := hid (fun B w' => datefirst_any B 3 [b1, b2, b3] w' rfl (by omega))
  rw [hb1, hb2, hb3] at h3
  rw [h3]
  generalize [b1, b2, b3].all id = R at *
  generalize dmV y m = D at *
  clear h3 hb1 hb2 hb3

  cases R
  all_goals
    go_enter Try.func30, Try.ntmps30
    go_upto_region 1 with fail
    refine region_tail_drew 14 (by kernel_rfl) (by kernel_rfl) ?_
    simp only [List.take_succ_cons, List.take_zero, List.drop_succ_cons, List.drop_zero]
    repeat still_step
    still_call (W1.out _)
    repeat still_step
    still_call (W2.out _)
    repeat still_step
    still_call (DM.out _)
    still_call (W3.out _)
    try refine wpStill_nil ?_
    go_wp2_with fail
    refine (F.out _ _ ?_).mono ?_
    · intro j hj
      have h : j = 0 ∨ j = 1 ∨ j = 2 := by omega
      rcases h with rfl | rfl | rfl <;> simp [go_sem]
    rintro e w1 ⟨rfl, hw1⟩
    obtain rfl := hw1.symm
    clear hw1
    go_wp2
    first
      | refine bodyPost_ret (v := .tuple #[dayS false y m d, .int .i64 (dcode false)]) (by simp [results, Try.results30, dayS, dcode, go_sem, *]) rfl ⟨rfl, ?_⟩
      | refine bodyPost_ret (v := .tuple #[dayS true y m d, .int .i64 (dcode true)]) (by simp [results, Try.results30, dayS, dcode, go_sem, *]) rfl ⟨rfl, ?_⟩
    go_grown
end Go.Proofs.Ytpfmmmedhkgheaa
