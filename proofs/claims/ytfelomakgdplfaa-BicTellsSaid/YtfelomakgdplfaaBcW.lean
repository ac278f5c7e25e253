/-
  Bank codes: the codes that are known (wakes).
-/
import Derived.Test.YtfelomakgdplfaaBcP
namespace Go.Proofs.Ytfelomakgdplfaa
open Go.RowKit

theorem bknown_a : bicV [68, 69, 85, 84, 68, 69, 70, 70] = true ∧ fullS ⟨#[68, 69, 85, 84, 68, 69, 70, 70]⟩ = ⟨#[68, 69, 85, 84, 68, 69, 70, 70, 88, 88, 88]⟩ := by decide +kernel
theorem bknown_b : bicV [68, 69, 85, 84, 68, 69, 70, 70, 88, 88, 88] = true ∧ shortS ⟨#[68, 69, 85, 84, 68, 69, 70, 70, 88, 88, 88]⟩ = ⟨#[68, 69, 85, 84, 68, 69, 70, 70]⟩ := by decide +kernel
theorem bknown_c : bicV [68, 69, 85, 84, 68, 69, 70, 70, 53, 48, 48] = true ∧ addrS ⟨#[68, 69, 85, 84, 68, 69, 70, 70, 53, 48, 48]⟩ = ⟨#[68, 69, 85, 84, 68, 69, 70, 70, 88, 53, 48, 48]⟩ := by decide +kernel
theorem bknown_d : bicV [68, 69, 85, 84, 49, 69, 70, 70] = false ∧ addrV [68, 69, 85, 84, 68, 69, 70, 70, 88, 53, 48, 48] = true := by decide +kernel

set_option maxHeartbeats 2000000 in
theorem bicwakes_any (w : World) :
    Calls Try.prog 6 #[] w fun e w' => e = .returned (.bool true) ∧ Below w.heap.size w w' := by
  have F := hid (fun w' => bicfull_any ⟨#[68, 69, 85, 84, 68, 69, 70, 70]⟩ (by decide) w')
  have S := hid (fun w' => bicshort_any ⟨#[68, 69, 85, 84, 68, 69, 70, 70, 88, 88, 88]⟩ (by decide) w')
  have D := hid (fun w' => bicaddress_any ⟨#[68, 69, 85, 84, 68, 69, 70, 70, 53, 48, 48]⟩ (by decide) w')
  have C := hid (fun w' => biccheck_any ⟨#[68, 69, 85, 84, 49, 69, 70, 70]⟩ (by decide) w')
  have G := hid (fun w' => bicaddr_any ⟨#[68, 69, 85, 84, 68, 69, 70, 70, 88, 53, 48, 48]⟩ (by decide) w')
  rw [show (⟨#[68, 69, 85, 84, 68, 69, 70, 70]⟩ : ByteArray).data.toList = [68, 69, 85, 84, 68, 69, 70, 70] from rfl, bknown_a.1, bknown_a.2] at F
  rw [show (⟨#[68, 69, 85, 84, 68, 69, 70, 70, 88, 88, 88]⟩ : ByteArray).data.toList = [68, 69, 85, 84, 68, 69, 70, 70, 88, 88, 88] from rfl, bknown_b.1, bknown_b.2] at S
  rw [show (⟨#[68, 69, 85, 84, 68, 69, 70, 70, 53, 48, 48]⟩ : ByteArray).data.toList = [68, 69, 85, 84, 68, 69, 70, 70, 53, 48, 48] from rfl, bknown_c.1, bknown_c.2] at D
  rw [show (⟨#[68, 69, 85, 84, 49, 69, 70, 70]⟩ : ByteArray).data.toList = [68, 69, 85, 84, 49, 69, 70, 70] from rfl, bknown_d.1] at C
  rw [show (⟨#[68, 69, 85, 84, 68, 69, 70, 70, 88, 53, 48, 48]⟩ : ByteArray).data.toList = [68, 69, 85, 84, 68, 69, 70, 70, 88, 53, 48, 48] from rfl, bknown_d.2] at G
  simp only [errB, if_true, Bool.false_eq_true, if_false] at F S D C G
  go_enter Try.func6, Try.ntmps6
  go_wp2_with fail
  refine (F.out _).mono ?_
  rintro e w1 ⟨rfl, h1⟩
  go_wp2_with fail
  refine (S.out _).mono ?_
  rintro e w2 ⟨rfl, h2⟩
  have b2 := h1.trans (h2.mono h1.size)
  clear h1 h2
  go_wp2_with fail
  refine (D.out _).mono ?_
  rintro e w3 ⟨rfl, h3⟩
  have b3 := b2.trans (h3.mono b2.size)
  clear b2 h3
  go_wp2_with fail
  refine (C.out _).mono ?_
  rintro e w4 ⟨rfl, h4⟩
  have b4 := b3.trans (h4.mono b3.size)
  clear b3 h4
  go_wp2_with fail
  refine (G.out _).mono ?_
  rintro e w5 ⟨rfl, h5⟩
  have b5 := b4.trans (h5.mono b4.size)
  clear b4 h5
  go_wp2
  go_returns
  exact ⟨rfl, b5⟩
end Go.Proofs.Ytfelomakgdplfaa
