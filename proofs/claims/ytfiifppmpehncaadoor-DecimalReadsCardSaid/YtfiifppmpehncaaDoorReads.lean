/-
  DecimalReads's walk.
-/
import Derived.Test.YtfiifppmpehncaaDoorRefS
import Derived.Test.YtfiifppmpehncaaDoorNum
namespace Go.Proofs.YtfiifppmpehncaaDoor
open Go.RowKit Go.Shelf

set_option maxRecDepth 100000 in
set_option maxHeartbeats 1000000 in
theorem reads_long (s : ByteArray) (w : World) (ht : Tab w) (hl : 60 < s.size) :
    Calls Tryd.prog 3 #[.string s] w fun e w' => e = .returned (.bool true) ∧ Below w.heap.size w w' := by
  have HT := hid ht
  clear ht
  go_enter Tryd.func3, Tryd.ntmps3
  go_wp2_with fail
  with_reducible refine (wakes_any _ HT.out).mono ?_
  rintro e w1 ⟨rfl, h1⟩
  go_wp2
  go_returns
  exact ⟨rfl, h1⟩

set_option maxRecDepth 100000 in
set_option maxHeartbeats 4000000 in
theorem reads_short (s : ByteArray) (w : World) (ht : Tab w) (hl : s.size ≤ 60) :
    Calls Tryd.prog 3 #[.string s] w fun e w' => e = .returned (.bool true) ∧ Below w.heap.size w w' := by
  have HT := hid ht
  have HP := hid (fun w' => parseMT_any s w' (by omega))
  have HRP := hid (fun w' => refParse_mt_any s w' hl)
  have HX := hid (fun w' => parseXML_any s w' (by omega))
  have HRX := hid (fun w' => refParse_xml_any s w' hl)
  generalize parseMTN s = m at HP HRP
  generalize parseXMLN s = x at HX HRX
  obtain ⟨m1, m2, m3⟩ := m
  obtain ⟨x1, x2, x3⟩ := x
  dsimp only at HP HRP HX HRX
  clear ht
  go_enter Tryd.func3, Tryd.ntmps3
  go_wp2_with fail
  with_reducible refine (HP.out _).mono ?_
  rintro e w1 ⟨rfl, h1⟩
  have N1 := hid (((Now.start w).below h1).box false m1 m2 24)
  clear h1
  go_wp2_with fail
  with_reducible refine (HRP.out _).mono ?_
  rintro e w2 ⟨rfl, h2⟩
  have N2 := hid ((N1.out.below h2).box false m1 m2 24)
  clear N1 h2
  go_wp2_with fail
  with_reducible refine (HX.out _).mono ?_
  rintro e w3 ⟨rfl, h3⟩
  have N3 := hid ((N2.out.below h3).box false x1 x2 24)
  clear N2 h3
  go_wp2_with fail
  with_reducible refine (HRX.out _).mono ?_
  rintro e w4 ⟨rfl, h4⟩
  have N4 := hid ((N3.out.below h4).box false x1 x2 24)
  clear N3 h4
  obtain ⟨b1, ⟨tz, t0, t1, t2⟩, ⟨vz, v0, v1, v2⟩, ⟨yz, y0, y1, y2⟩, ⟨z1, x0, x4, x5⟩, _⟩ := N4.out
  have HT2 := hid (HT.out.below b1)
  go_wp2_with fail
  with_reducible refine (wakes_any _ HT2.out).mono ?_
  rintro e w5 ⟨rfl, h5⟩
  go_wp2
  go_returns
  exact ⟨rfl, b1.trans (h5.mono b1.size)⟩

theorem reads_any (s : ByteArray) (w : World) (ht : Tab w) :
    Calls Tryd.prog 3 #[.string s] w fun e w' => e = .returned (.bool true) ∧ Below w.heap.size w w' := by
  by_cases hl : s.size ≤ 60
  · exact reads_short s w ht hl
  · exact reads_long s w ht (by omega)
end Go.Proofs.YtfiifppmpehncaaDoor
