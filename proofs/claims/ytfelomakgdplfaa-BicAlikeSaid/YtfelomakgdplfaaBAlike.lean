/-
  The walk of BicAlike.
-/
import Derived.Test.YtfelomakgdplfaaBcW
namespace Go.Proofs.Ytfelomakgdplfaa
open Go.RowKit

set_option maxHeartbeats 1000000 in
theorem bAlike_long (s t : ByteArray) (w : World) (h1 : s.size ≤ 140737488351232) (h2 : t.size ≤ 140737488351232) (hl : 60 < s.size + t.size) :
    Calls Try.prog 5 #[.string s, .string t] w fun e w' => e = .returned (.bool true) ∧ Below w.heap.size w w' := by
  go_enter Try.func5, Try.ntmps5
  go_wp2_with (go_at_call 6; with_reducible refine (bicwakes_any _).mono ?_; rintro e w1 ⟨rfl, h1⟩)
  go_returns
  exact ⟨rfl, h1⟩

set_option maxHeartbeats 2000000 in
theorem bAlike_bad (s t : ByteArray) (w : World) (hl : s.size + t.size ≤ 60) (h : bicV s.data.toList = false ∨ bicV s.data.toList = true ∧ bicV t.data.toList = false) :
    Calls Try.prog 5 #[.string s, .string t] w fun e w' => e = .returned (.bool true) ∧ Below w.heap.size w w' := by
  have C1 := hid (fun w' => biccheck_any s (by omega) w')
  have C2 := hid (fun w' => biccheck_any t (by omega) w')
  rcases h with h | ⟨h, h'⟩
  · rw [h] at C1
    simp only [errB, Bool.false_eq_true, if_false] at C1
    clear h C2
    go_enter Try.func5, Try.ntmps5
    go_wp2_with fail
    refine (C1.out _).mono ?_
    rintro e w1 ⟨rfl, h1⟩
    go_wp2_with fail
    refine (bicwakes_any _).mono ?_
    rintro e w2 ⟨rfl, h2⟩
    go_wp2
    go_returns
    exact ⟨rfl, h1.trans (h2.mono h1.size)⟩
  · rw [h] at C1
    rw [h'] at C2
    simp only [errB, Bool.false_eq_true, if_false, if_true] at C1 C2
    clear h h'
    go_enter Try.func5, Try.ntmps5
    go_wp2_with fail
    refine (C1.out _).mono ?_
    rintro e w1 ⟨rfl, h1⟩
    go_wp2_with fail
    refine (C2.out _).mono ?_
    rintro e w2 ⟨rfl, h2⟩
    have b2 := h1.trans (h2.mono h1.size)
    clear h1 h2
    go_wp2_with fail
    refine (bicwakes_any _).mono ?_
    rintro e w3 ⟨rfl, h3⟩
    go_wp2
    go_returns
    exact ⟨rfl, b2.trans (h3.mono b2.size)⟩

/-- Two equal texts, two equal texts; or two unlike ones, two unlike ones. -/
theorem alike_three {s t : ByteArray} (h : bicV s.data.toList = true) (h' : bicV t.data.toList = true) :
    (fullS s = fullS t ∧ shortS s = shortS t ∧ addrS s = addrS t) ∨ (¬ fullS s = fullS t ∧ ¬ shortS s = shortS t ∧ ¬ addrS s = addrS t) := by
  have e1 : fullS s = fullS t ↔ fullL s.data.toList = fullL t.data.toList := ⟨fun e => congrArg (fun x : ByteArray => x.data.toList) e, fun e => ib_str_eq e⟩
  have e2 : shortS s = shortS t ↔ shortL s.data.toList = shortL t.data.toList := ⟨fun e => congrArg (fun x : ByteArray => x.data.toList) e, fun e => ib_str_eq e⟩
  have e3 : addrS s = addrS t ↔ addrL s.data.toList = addrL t.data.toList := ⟨fun e => congrArg (fun x : ByteArray => x.data.toList) e, fun e => ib_str_eq e⟩
  rw [e1, e2, e3, ← full_iff h h', addr_iff h h']
  by_cases e : fullL s.data.toList = fullL t.data.toList
  · exact .inl ⟨e, e, e⟩
  · exact .inr ⟨e, e, e⟩

set_option maxRecDepth 100000 in
set_option maxHeartbeats 8000000 in
theorem bAlike_good (s t : ByteArray) (w : World) (hl : s.size + t.size ≤ 60) (h : bicV s.data.toList = true) (h' : bicV t.data.toList = true) :
    Calls Try.prog 5 #[.string s, .string t] w fun e w' => e = .returned (.bool true) ∧ Below w.heap.size w w' := by
  have C1 := hid (fun w' => biccheck_any s (by omega) w')
  have C2 := hid (fun w' => biccheck_any t (by omega) w')
  have F1 := hid (fun w' => bicfull_any s (by omega) w')
  have F2 := hid (fun w' => bicfull_any t (by omega) w')
  have T1 := hid (fun w' => bicshort_any s (by omega) w')
  have T2 := hid (fun w' => bicshort_any t (by omega) w')
  have D1 := hid (fun w' => bicaddress_any s (by omega) w')
  have D2 := hid (fun w' => bicaddress_any t (by omega) w')
  have A3 := alike_three h h'
  have hst : s = t → fullS s = fullS t := fun e => by rw [e]
  rw [h] at C1 F1 T1 D1
  rw [h'] at C2 F2 T2 D2
  simp only [errB, if_true] at C1 F1 T1 D1 C2 F2 T2 D2
  generalize fullS s = f1 at *
  generalize fullS t = f2 at *
  generalize shortS s = t1 at *
  generalize shortS t = t2 at *
  generalize addrS s = d1 at *
  generalize addrS t = d2 at *
  have hC : ((f1.toList == f2.toList) = true ∧ (t1.toList == t2.toList) = true ∧ (d1.toList == d2.toList) = true) ∨
      ((f1.toList == f2.toList) = false ∧ (t1.toList == t2.toList) = false ∧ (d1.toList == d2.toList) = false ∧ (s.toList == t.toList) = false) := by
    rcases A3 with ⟨x, y, z⟩ | ⟨x, y, z⟩
    · exact .inl ⟨toList_yes x, toList_yes y, toList_yes z⟩
    · exact .inr ⟨toList_no x, toList_no y, toList_no z, toList_no (fun e => x (hst e))⟩
  clear A3 hst h h'
  have hC2 : ((f1.toList == f2.toList) = true ∧ (t1.toList == t2.toList) = true ∧ (d1.toList == d2.toList) = true ∧ (s.toList == t.toList) = true) ∨
      ((f1.toList == f2.toList) = true ∧ (t1.toList == t2.toList) = true ∧ (d1.toList == d2.toList) = true ∧ (s.toList == t.toList) = false) ∨
      ((f1.toList == f2.toList) = false ∧ (t1.toList == t2.toList) = false ∧ (d1.toList == d2.toList) = false ∧ (s.toList == t.toList) = false) := by
    rcases hC with ⟨g1, g2, g3⟩ | g
    · cases g4 : s.toList == t.toList
      · exact .inr (.inl ⟨g1, g2, g3, rfl⟩)
      · exact .inl ⟨g1, g2, g3, rfl⟩
    · exact .inr (.inr g)
  clear hC
  rcases hC2 with ⟨g1, g2, g3, g4⟩ | ⟨g1, g2, g3, g4⟩ | ⟨g1, g2, g3, g4⟩
  all_goals
    go_enter Try.func5, Try.ntmps5
    go_wp2_with fail
    refine (C1.out _).mono ?_
    rintro e w1 ⟨rfl, h1⟩
    go_wp2_with fail
    refine (C2.out _).mono ?_
    rintro e w2 ⟨rfl, h2⟩
    have b2 := h1.trans (h2.mono h1.size)
    clear h1 h2
    go_wp2_with fail
    refine (F1.out _).mono ?_
    rintro e w3 ⟨rfl, h3⟩
    have b3 := b2.trans (h3.mono b2.size)
    clear b2 h3
    go_wp2_with fail
    refine (F2.out _).mono ?_
    rintro e w4 ⟨rfl, h4⟩
    have b4 := b3.trans (h4.mono b3.size)
    clear b3 h4
    go_wp2_with fail
    refine (T1.out _).mono ?_
    rintro e w5 ⟨rfl, h5⟩
    have b5 := b4.trans (h5.mono b4.size)
    clear b4 h5
    go_wp2_with fail
    refine (T2.out _).mono ?_
    rintro e w6 ⟨rfl, h6⟩
    have b6 := b5.trans (h6.mono b5.size)
    clear b5 h6
    go_wp2_with fail
    refine (D1.out _).mono ?_
    rintro e w7 ⟨rfl, h7⟩
    have b7 := b6.trans (h7.mono b6.size)
    clear b6 h7
    go_wp2_with fail
    refine (D2.out _).mono ?_
    rintro e w8 ⟨rfl, h8⟩
    have b8 := b7.trans (h8.mono b7.size)
    clear b7 h8
    go_wp2_with fail
    refine (bicwakes_any _).mono ?_
    rintro e w9 ⟨rfl, h9⟩
    go_wp2
    go_returns
    exact ⟨rfl, b8.trans (h9.mono b8.size)⟩

theorem bAlike_any (s : ByteArray) (h1 : s.size ≤ 140737488351232) (t : ByteArray) (h2 : t.size ≤ 140737488351232) (w : World) :
    Calls Try.prog 5 #[.string s, .string t] w fun e w' => e = .returned (.bool true) ∧ Below w.heap.size w w' := by
  by_cases h : s.size + t.size ≤ 60
  · by_cases hv : bicV s.data.toList = true
    · by_cases hu : bicV t.data.toList = true
      · exact bAlike_good s t w h hv hu
      · exact bAlike_bad s t w h (.inr ⟨hv, by simpa using hu⟩)
    · exact bAlike_bad s t w h (.inl (by simpa using hv))
  · exact bAlike_long s t w h1 h2 (by omega)
end Go.Proofs.Ytfelomakgdplfaa
