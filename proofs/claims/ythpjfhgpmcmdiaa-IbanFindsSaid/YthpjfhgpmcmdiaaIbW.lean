/-
  Account numbers: the numbers that are known (wakes), and a byte's kind.
-/
import Derived.Test.YthpjfhgpmcmdiaaIbK
namespace Go.Proofs.Ythpjfhgpmcmdiaa
open Go.RowKit

theorem known_br : lenV [66, 82] = (29, true) := by decide +kernel
theorem known_gb : checkV [71, 66, 56, 50, 87, 69, 83, 84, 49, 50, 51, 52, 53, 54, 57, 56, 55, 54, 53, 52, 51, 50] = 0 := by decide +kernel
theorem known_de : checkV [68, 69, 56, 57, 51, 55, 48, 52, 48, 48, 52, 52, 48, 53, 51, 50, 48, 49, 51, 48, 48, 48] = 0 := by decide +kernel
theorem known_no : checkV [71, 66, 56, 50, 87, 69, 83, 84, 49, 50, 51, 52, 53, 54, 57, 56, 55, 54, 53, 52, 51, 51] = 13 := by decide +kernel
theorem known_nil : checkV [] = 13 := by decide +kernel

theorem check_lit (l : List UInt8) (x : Int) (h : checkV l = x) (hl : l.length ≤ 1000) (w : World) :
    Calls Try.prog 11 #[.string ⟨l.toArray⟩] w fun e w' => e = .returned (.int .i64 x) ∧ Below w.heap.size w w' := by
  rw [← h]
  exact ibcheck_any ⟨l.toArray⟩ w hl

set_option maxHeartbeats 1000000 in
theorem ibwakes_any (w : World) :
    Calls Try.prog 6 #[] w fun e w' => e = .returned (.bool true) ∧ Below w.heap.size w w' := by
  have C1 := hid (fun w' => check_lit _ _ known_gb (by decide) w')
  have C2 := hid (fun w' => check_lit _ _ known_de (by decide) w')
  have C3 := hid (fun w' => check_lit _ _ known_no (by decide) w')
  have C4 := hid (fun w' => check_lit _ _ known_nil (by decide) w')
  have L1 := hid (fun w' => iblength_any ⟨#[66, 82]⟩ w' (by decide))
  rw [show (⟨#[66, 82]⟩ : ByteArray).data.toList = [66, 82] from rfl, known_br] at L1
  go_enter Try.func6, Try.ntmps6
  go_wp2_with fail
  refine (L1.out _).mono ?_
  rintro e w1 ⟨rfl, h1⟩
  go_wp2_with fail
  refine (C1.out _).mono ?_
  rintro e w2 ⟨rfl, h2⟩
  have b2 := h1.trans (h2.mono h1.size)
  clear h1 h2
  go_wp2_with fail
  refine (C2.out _).mono ?_
  rintro e w3 ⟨rfl, h3⟩
  have b3 := b2.trans (h3.mono b2.size)
  clear b2 h3
  go_wp2_with fail
  refine (C3.out _).mono ?_
  rintro e w4 ⟨rfl, h4⟩
  have b4 := b3.trans (h4.mono b3.size)
  clear b3 h4
  go_wp2_with fail
  refine (C4.out _).mono ?_
  rintro e w5 ⟨rfl, h5⟩
  have b5 := b4.trans (h5.mono b4.size)
  clear b4 h5
  go_wp2
  go_returns
  exact ⟨rfl, b5⟩

/-- A byte's kind. -/
def kindV (c : UInt8) : Int := if ibDg c then 1 else if ibLt c then 2 else 0
set_option maxHeartbeats 400000 in
theorem kind_dg (n : Nat) (h1 : 48 ≤ n) (h2 : n ≤ 57) (w : World) :
    Calls Try.prog 14 #[.int .u8 n] w fun e w' => e = .returned (.int .i64 1) ∧ w' = w := by
  go_enter Try.func14, Try.ntmps14
  go_wp2
  go_returns
  exact ⟨rfl, rfl⟩
set_option maxHeartbeats 400000 in
theorem kind_lt (n : Nat) (h1 : 65 ≤ n) (h2 : n ≤ 90) (w : World) :
    Calls Try.prog 14 #[.int .u8 n] w fun e w' => e = .returned (.int .i64 2) ∧ w' = w := by
  have h3 : 57 < n := by omega
  have h4 : 48 ≤ n := by omega
  go_enter Try.func14, Try.ntmps14
  go_wp2
  go_returns
  exact ⟨rfl, rfl⟩
theorem kind_any (c : UInt8) (hc : ibOk c = true) (w : World) :
    Calls Try.prog 14 #[.int .u8 c.toNat] w fun e w' => e = .returned (.int .i64 (kindV c)) ∧ w' = w := by
  rcases ok_cases hc with ⟨h1, h2⟩ | ⟨h1, h2⟩
  · have e : kindV c = 1 := by simp [kindV, ibDg, h1, h2]
    rw [e]
    exact kind_dg _ h1 h2 w
  · have h3 : ¬ c.toNat ≤ 57 := by omega
    have e : kindV c = 2 := by simp [kindV, ibDg, ibLt, h1, h2, h3]
    rw [e]
    exact kind_lt _ h1 h2 w
end Go.Proofs.Ythpjfhgpmcmdiaa
