/-
  The walk of IbanTells.
-/
import Derived.Test.YthpjfhgpmcmdiaaIbW
namespace Go.Proofs.Ythpjfhgpmcmdiaa
open Go.RowKit

set_option maxHeartbeats 1000000 in
theorem ibTells_long (s : ByteArray) (w : World) (hs : s.size ≤ 9223372036854775807) (hl : 100 < s.size) :
    Calls Try.prog 3 #[.string s] w fun e w' => e = .returned (.bool true) ∧ Below w.heap.size w w' := by
  go_enter Try.func3, Try.ntmps3
  go_wp2_with (go_at_call 6; with_reducible refine (ibwakes_any _).mono ?_; rintro e w1 ⟨rfl, h1⟩)
  go_returns
  exact ⟨rfl, h1⟩

set_option maxRecDepth 100000 in
set_option maxHeartbeats 4000000 in
theorem ibTells_short (s : ByteArray) (w : World) (hs : s.size ≤ 100) :
    Calls Try.prog 3 #[.string s] w fun e w' => e = .returned (.bool true) ∧ Below w.heap.size w w' := by
  have R1 := hid (fun w' => ibrest_any s w' (by omega))
  have R2 := hid (fun w' => refRest_any s w' (by omega))
  have C1 := hid (fun w' => ibcheck_any s w' (by omega))
  have C2 := hid (fun w' => refCheck_any s w' (by omega))
  have L1 := hid (fun (t : ByteArray) w' (h : t.size ≤ 9223372036854775807) => iblength_any t w' h)
  generalize restV s.data.toList = r at R1 R2
  generalize checkV s.data.toList = c at C1 C2
  obtain ⟨r1, r2⟩ := r
  dsimp only at R1 R2
  go_enter Try.func3, Try.ntmps3
  go_wp2_with fail
  refine (R1.out _).mono ?_
  rintro e w1 ⟨rfl, h1⟩
  go_wp2_with fail
  refine (R2.out _).mono ?_
  rintro e w2 ⟨rfl, h2⟩
  have b2 := h1.trans (h2.mono h1.size)
  clear h1 h2
  have hz : (s.extract 0 (min (s.size : Int) 2).toNat).size ≤ 9223372036854775807 := by rw [ByteArray.size_extract]; omega
  have hm : (min (s.size : Int) 2).toNat ≤ s.size := by omega
  have hm2 : 0 ≤ min (s.size : Int) 2 := by omega
  go_wp2_with fail
  refine (L1.out _ _ hz).mono ?_
  rintro e w3 ⟨rfl, h3⟩
  have b3 := b2.trans (h3.mono b2.size)
  clear b2 h3
  have L2 := hid (fun w' => refLength_any (s.extract 0 (min (s.size : Int) 2).toNat) w')
  generalize lenV (s.extract 0 (min (s.size : Int) 2).toNat).data.toList = d at L2 ⊢
  obtain ⟨d1, d2⟩ := d
  dsimp only at L2 ⊢
  go_wp2_with fail
  refine (L2.out _).mono ?_
  rintro e w4 ⟨rfl, h4⟩
  have b4 := b3.trans (h4.mono b3.size)
  clear b3 h4
  go_wp2_with fail
  refine (C1.out _).mono ?_
  rintro e w5 ⟨rfl, h5⟩
  have b5 := b4.trans (h5.mono b4.size)
  clear b4 h5
  go_wp2_with fail
  refine (C2.out _).mono ?_
  rintro e w6 ⟨rfl, h6⟩
  have b6 := b5.trans (h6.mono b5.size)
  clear b5 h6
  go_wp2_with fail
  refine (ibwakes_any _).mono ?_
  rintro e w7 ⟨rfl, h7⟩
  have b7 := b6.trans (h7.mono b6.size)
  clear b6 h7
  go_wp2
  go_returns
  exact ⟨rfl, b7⟩

theorem ibTells_any (s : ByteArray) (hs : s.size ≤ 9223372036854775807) (w : World) :
    Calls Try.prog 3 #[.string s] w fun e w' => e = .returned (.bool true) ∧ Below w.heap.size w w' := by
  by_cases h : s.size ≤ 100
  · exact ibTells_short s w h
  · exact ibTells_long s w hs (by omega)
end Go.Proofs.Ythpjfhgpmcmdiaa
