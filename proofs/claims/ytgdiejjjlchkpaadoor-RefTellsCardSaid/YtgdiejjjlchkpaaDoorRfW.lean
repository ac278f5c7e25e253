/-
  References: those that are known (wakes).
-/
import Derived.Test.YtgdiejjjlchkpaaDoorRfK
import Derived.Test.YtgdiejjjlchkpaaDoorRfR
namespace Go.Proofs.YtgdiejjjlchkpaaDoor
open Go.RowKit

def rk1 : ByteArray := ⟨#[65, 47, 66]⟩
def rk2 : ByteArray := ⟨#[47, 65]⟩
def rk3 : ByteArray := ⟨#[65, 65, 65, 65, 65, 65, 65, 65, 65, 65, 65, 65, 65, 65, 65, 65, 65]⟩
def rk0 : ByteArray := ⟨#[48, 48, 48, 48, 48, 48, 48, 48, 45, 48, 48, 48, 48, 45, 52, 48, 48, 48, 45, 56, 48, 48, 48, 45, 48, 48, 48, 48, 48, 48, 48, 48, 48, 48, 48, 48]⟩
theorem rknown_a : errR (rfV rk1.data.toList 16) = 0 ∧ errR (rfV rk2.data.toList 16) = 17 ∧ errR (rfV rk3.data.toList 16) = 17 ∧ errR (rfV rk3.data.toList 35) = 0 ∧ errR (utV (ByteArray.mk #[]).data.toList) = 17 := by decide +kernel
theorem rknown_b : (⟨(mkL 0).toArray⟩ : ByteArray) = rk0 := by decide +kernel

set_option maxHeartbeats 2000000 in
theorem rfwakes_any (w : World) (hT : RTab w) :
    Calls Tryd.prog 5 #[] w fun e w' => e = .returned (.bool true) ∧ Below w.heap.size w w' := by
  have A := hid (fun w' (h : RTab w') => refcheck_any rk1 (by decide) w' h)
  have B := hid (fun w' (h : RTab w') => refcheck_any rk2 (by decide) w' h)
  have C := hid (fun w' (h : RTab w') => refcheck_any rk3 (by decide) w' h)
  have D := hid (fun w' (h : RTab w') => refid_any rk3 (by decide) w' h)
  have M0 : Hid (∀ w', RTab w' → Calls Tryd.prog 12 #[.int .u64 0] w' fun e w2 => e = .returned (.string ⟨(mkL 0).toArray⟩) ∧ Below w'.heap.size w' w2) := hid (fun w' h => refmake_any 0 (by decide) w' h)
  have M1 : Hid (∀ w', RTab w' → Calls Tryd.prog 12 #[.int .u64 77] w' fun e w2 => e = .returned (.string ⟨(mkL 77).toArray⟩) ∧ Below w'.heap.size w' w2) := hid (fun w' h => refmake_any 77 (by decide) w' h)
  have E := hid (fun w' => refuetr_any ⟨(mkL 77).toArray⟩ (by decide) w')
  have F := hid (fun w' => refuetr_any ⟨#[]⟩ (by decide) w')
  rw [rknown_a.1] at A
  rw [rknown_a.2.1] at B
  rw [rknown_a.2.2.1] at C
  rw [rknown_a.2.2.2.1] at D
  rw [rknown_a.2.2.2.2] at F
  rw [rknown_b] at M0
  rw [show utV (⟨(mkL 77).toArray⟩ : ByteArray).data.toList = true from mk_ut 77, show errR true = 0 from rfl] at E
  generalize (⟨(mkL 77).toArray⟩ : ByteArray) = k7 at M1 E
  have HT := hid (fun w' (hb : Below w.heap.size w w') => hT.below hb)
  have hT0 := hid hT
  clear hT
  unfold rk1 at A
  unfold rk2 at B
  unfold rk3 at C D
  unfold rk0 at M0
  go_enter Tryd.func5, Tryd.ntmps5
  go_wp2_with fail
  refine (A.out _ hT0.out).mono ?_
  rintro e w1 ⟨rfl, b1⟩
  go_wp2_with fail
  refine (B.out _ (HT.out _ b1)).mono ?_
  rintro e w2 ⟨rfl, h2⟩
  have b2 := b1.trans (h2.mono b1.size)
  clear b1 h2
  go_wp2_with fail
  refine (C.out _ (HT.out _ b2)).mono ?_
  rintro e w3 ⟨rfl, h3⟩
  have b3 := b2.trans (h3.mono b2.size)
  clear b2 h3
  go_wp2_with fail
  refine (D.out _ (HT.out _ b3)).mono ?_
  rintro e w4 ⟨rfl, h4⟩
  have b4 := b3.trans (h4.mono b3.size)
  clear b3 h4
  go_wp2_with fail
  refine (M0.out _ (HT.out _ b4)).mono ?_
  rintro e w5 ⟨rfl, h5⟩
  have b5 := b4.trans (h5.mono b4.size)
  clear b4 h5
  go_wp2_with fail
  refine (M1.out _ (HT.out _ b5)).mono ?_
  rintro e w6 ⟨rfl, h6⟩
  have b6 := b5.trans (h6.mono b5.size)
  clear b5 h6
  go_wp2_with fail
  refine (E.out _).mono ?_
  rintro e w7 ⟨rfl, h7⟩
  have b7 := b6.trans (h7.mono b6.size)
  clear b6 h7
  go_wp2_with fail
  refine (F.out _).mono ?_
  rintro e w8 ⟨rfl, h8⟩
  have b8 := b7.trans (h8.mono b7.size)
  clear b7 h8
  go_wp2
  go_returns
  exact ⟨rfl, b8⟩
end Go.Proofs.YtgdiejjjlchkpaaDoor
