/-
  The walk of DateOrder.
-/
import Derived.Test.YtpfmmmedhkgheaaDtW
import Derived.Test.YtpfmmmedhkgheaaDtO
namespace Go.Proofs.Ytpfmmmedhkgheaa
open Go.RowKit

theorem dt_list (s : ByteArray) : s.toList = s.data.toList := Lib.toList_data s

set_option maxHeartbeats 1000000 in
theorem dOrder_long (s t : ByteArray) (w : World) (hs : s.size ≤ 140737488351232) (ht : t.size ≤ 140737488351232) (h : 40 < s.size + t.size) :
    Calls Try.prog 5 #[.string s, .string t] w fun e w' => e = .returned (.bool true) ∧ Below w.heap.size w w' := by
  go_enter Try.func5, Try.ntmps5
  go_wp2_with fail
  refine (dtwakes_any _).mono ?_
  rintro e w1 ⟨rfl, h1⟩
  go_wp2
  go_returns
  exact ⟨rfl, h1⟩

set_option maxRecDepth 100000 in
set_option maxHeartbeats 8000000 in
theorem dOrder_short (s t : ByteArray) (w : World) (h : s.size + t.size ≤ 40) :
    Calls Try.prog 5 #[.string s, .string t] w fun e w' => e = .returned (.bool true) ∧ Below w.heap.size w w' := by
  have P1 := hid (fun w' => dateday_any s w' (by omega))
  have P2 := hid (fun w' => dateday_any t w' (by omega))
  have C1 := hid (fun w' => datecheckxml_any s w' (by omega))
  have C2 := hid (fun w' => datecheckxml_any t w' (by omega))
  have bx := xmlV_bound s.data.toList
  have by' := xmlV_bound t.data.toList
  have hx : ∃ (lt eq : Bool), (0 ≤ xmlV s.data.toList → 0 ≤ xmlV t.data.toList → Op.bytesLess s.toList t.toList = lt ∧ (s.toList == t.toList) = eq ∧
      decide (xmlV s.data.toList < xmlV t.data.toList) = lt ∧ (xmlV s.data.toList == xmlV t.data.toList) = eq) := by
    by_cases q : 0 ≤ xmlV s.data.toList ∧ 0 ≤ xmlV t.data.toList
    · obtain ⟨o1, o2⟩ := xml_order q.1 q.2
      refine ⟨_, _, fun _ _ => ⟨?_, ?_, rfl, rfl⟩⟩
      · rw [dt_list, dt_list, o1]
      · rw [dt_list, dt_list, Bool.eq_iff_iff, beq_iff_eq, beq_iff_eq, o2]
    · exact ⟨false, false, fun a b => absurd ⟨a, b⟩ q⟩
  obtain ⟨lt, eq, HX⟩ := hx
  generalize xmlV s.data.toList = x at *
  generalize xmlV t.data.toList = y at *
  have hz : (0 ≤ x ∧ 0 ≤ y) ∨ (0 ≤ x ∧ y < 0) ∨ (x < 0 ∧ 0 ≤ y) ∨ (x < 0 ∧ y < 0) := by omega
  rcases hz with ⟨q1, q2⟩ | ⟨q1, q2⟩ | ⟨q1, q2⟩ | ⟨q1, q2⟩
  case inl =>
    obtain ⟨o1, o2, o3, o4⟩ := HX q1 q2
    rw [if_pos q1, show decide (0 ≤ x) = true by simpa using q1] at P1
    rw [if_pos q2, show decide (0 ≤ y) = true by simpa using q2] at P2
    simp only [dcode, if_true] at P1 P2
    clear HX C1 C2
    cases lt <;> cases eq
    all_goals
      go_enter Try.func5, Try.ntmps5
      go_wp2_with fail
      refine (P1.out _).mono ?_
      rintro e w1 ⟨rfl, b1⟩
      go_wp2_with fail
      refine (P2.out _).mono ?_
      rintro e w2 ⟨rfl, h2⟩
      have b2 := b1.trans (h2.mono b1.size)
      clear b1 h2
      go_wp2_with fail
      refine (dtwakes_any _).mono ?_
      rintro e w7 ⟨rfl, h7⟩
      have b7 := b2.trans (h7.mono b2.size)
      go_wp2
      go_returns
      exact ⟨rfl, b7⟩
  all_goals
    clear HX
    first | rw [if_pos q1, show decide (0 ≤ x) = true by simpa using q1] at P1 | rw [if_neg (by omega), show decide (0 ≤ x) = false by simpa using q1] at P1
    first | rw [if_pos q2, show decide (0 ≤ y) = true by simpa using q2] at P2 | rw [if_neg (by omega), show decide (0 ≤ y) = false by simpa using q2] at P2
    first | rw [show decide (0 ≤ x) = true by simpa using q1] at C1 | rw [show decide (0 ≤ x) = false by simpa using q1] at C1
    first | rw [show decide (0 ≤ y) = true by simpa using q2] at C2 | rw [show decide (0 ≤ y) = false by simpa using q2] at C2
    simp only [dcode, if_true, Bool.false_eq_true, if_false] at P1 P2 C1 C2
    go_enter Try.func5, Try.ntmps5
    go_wp2_with fail
    refine (P1.out _).mono ?_
    rintro e w1 ⟨rfl, b1⟩
    go_wp2_with fail
    refine (P2.out _).mono ?_
    rintro e w2 ⟨rfl, h2⟩
    have b2 := b1.trans (h2.mono b1.size)
    clear b1 h2
    go_wp2_with fail
    refine (C1.out _).mono ?_
    rintro e w3 ⟨rfl, h3⟩
    have b3 := b2.trans (h3.mono b2.size)
    clear b2 h3
    go_wp2_with fail
    first
    | (refine (dtwakes_any _).mono ?_
       rintro e w7 ⟨rfl, h7⟩
       have b7 := b3.trans (h7.mono b3.size)
       go_wp2
       go_returns
       exact ⟨rfl, b7⟩)
    | (refine (C2.out _).mono ?_
       rintro e w4 ⟨rfl, h4⟩
       have b4 := b3.trans (h4.mono b3.size)
       clear b3 h4
       go_wp2_with fail
       refine (dtwakes_any _).mono ?_
       rintro e w7 ⟨rfl, h7⟩
       have b7 := b4.trans (h7.mono b4.size)
       go_wp2
       go_returns
       exact ⟨rfl, b7⟩)

theorem dOrder_any (s : ByteArray) (hs : s.size ≤ 140737488351232) (t : ByteArray) (ht : t.size ≤ 140737488351232) (w : World) :
    Calls Try.prog 5 #[.string s, .string t] w fun e w' => e = .returned (.bool true) ∧ Below w.heap.size w w' := by
  by_cases h : s.size + t.size ≤ 40
  · exact dOrder_short s t w h
  · exact dOrder_long s t w hs ht (by omega)
end Go.Proofs.Ytpfmmmedhkgheaa
