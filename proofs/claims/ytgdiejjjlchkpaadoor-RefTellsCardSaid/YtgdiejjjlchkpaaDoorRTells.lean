/-
  RefTells: whether a text is a reference, an identification, a UETR, is what the document says.
-/
import Derived.Test.YtgdiejjjlchkpaaDoorRfW
namespace Go.Proofs.YtgdiejjjlchkpaaDoor
open Go.RowKit

set_option maxHeartbeats 4000000 in
theorem rTells_any (s : ByteArray) (_hs : s.size ≤ 9223372036854775807) (w : World) (hT : RTab w) :
    Calls Tryd.prog 3 #[.string s] w fun e w' => e = .returned (.bool true) ∧ Below w.heap.size w w' := by
  by_cases hlong : 100 < s.size
  · have hg : (s.size : Int) > 100 := by omega
    clear hlong
    have hT0 := hid hT
    clear hT
    go_enter Tryd.func3, Tryd.ntmps3
    go_wp2_with fail
    refine (rfwakes_any _ hT0.out).mono ?_
    rintro e w1 ⟨rfl, b1⟩
    go_wp2
    go_returns
    exact ⟨rfl, b1⟩
  · have hg : ¬ (s.size : Int) > 100 := by omega
    have A := hid (fun w' (h : RTab w') => refcheck_any s (by omega) w' h)
    have B := hid (fun w' (h : RTab w') => refid_any s (by omega) w' h)
    have C := hid (fun w' => refuetr_any s (by omega) w')
    have G16 : Hid (∀ w', Calls Tryd.prog 8 #[.string s, .int .i64 16] w' fun e w2 => e = .returned (.bool (rfV s.data.toList 16)) ∧ w2 = w') := hid (fun w' => rfgood_any s 16 (by omega) w')
    have G35 : Hid (∀ w', Calls Tryd.prog 8 #[.string s, .int .i64 35] w' fun e w2 => e = .returned (.bool (rfV s.data.toList 35)) ∧ w2 = w') := hid (fun w' => rfgood_any s 35 (by omega) w')
    have U := hid (fun w' => rfuetr_any s (by omega) w')
    generalize rfV s.data.toList 16 = p at A G16
    generalize rfV s.data.toList 35 = q at B G35
    generalize utV s.data.toList = r at C U
    have S1 := hid (fun w' => rfsay_any p w')
    have S2 := hid (fun w' => rfsay_any q w')
    have S3 := hid (fun w' => rfsay_any r w')
    generalize errR p = x at A S1
    generalize errR q = y at B S2
    generalize errR r = z at C S3
    have ex : (x == x) = true := beq_self_eq_true _
    have ey : (y == y) = true := beq_self_eq_true _
    have ez : (z == z) = true := beq_self_eq_true _
    have HT := hid (fun w' (hb : Below w.heap.size w w') => hT.below hb)
    have hT0 := hid hT
    clear hlong hT
    go_enter Tryd.func3, Tryd.ntmps3
    go_wp2_with fail
    refine (A.out _ hT0.out).mono ?_
    rintro e w1 ⟨rfl, b1⟩
    go_wp2_with fail
    refine (G16.out _).mono ?_
    rintro e w' ⟨rfl, hw'⟩
    obtain rfl := hw'.symm
    go_wp2_with fail
    refine (S1.out _).mono ?_
    rintro e w' ⟨rfl, hw'⟩
    obtain rfl := hw'.symm
    go_wp2_with fail
    refine (B.out _ (HT.out _ b1)).mono ?_
    rintro e w2 ⟨rfl, h2⟩
    have b2 := b1.trans (h2.mono b1.size)
    clear b1 h2
    go_wp2_with fail
    refine (G35.out _).mono ?_
    rintro e w' ⟨rfl, hw'⟩
    obtain rfl := hw'.symm
    go_wp2_with fail
    refine (S2.out _).mono ?_
    rintro e w' ⟨rfl, hw'⟩
    obtain rfl := hw'.symm
    go_wp2_with fail
    refine (C.out _).mono ?_
    rintro e w3 ⟨rfl, h3⟩
    have b3 := b2.trans (h3.mono b2.size)
    clear b2 h3
    go_wp2_with fail
    refine (U.out _).mono ?_
    rintro e w' ⟨rfl, hw'⟩
    obtain rfl := hw'.symm
    go_wp2_with fail
    refine (S3.out _).mono ?_
    rintro e w' ⟨rfl, hw'⟩
    obtain rfl := hw'.symm
    go_wp2_with fail
    refine (rfwakes_any _ (HT.out _ b3)).mono ?_
    rintro e w4 ⟨rfl, h4⟩
    have b4 := b3.trans (h4.mono b3.size)
    clear b3 h4
    go_wp2
    go_returns
    exact ⟨rfl, b4⟩
end Go.Proofs.YtgdiejjjlchkpaaDoor
