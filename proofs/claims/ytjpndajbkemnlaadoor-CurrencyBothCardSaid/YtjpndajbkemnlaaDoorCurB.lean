/-
  All: the currencies, sorted.
-/
import Derived.Test.YtjpndajbkemnlaaDoorCurA
import Derived.Test.YtjpndajbkemnlaaDoorIter
namespace Go.Proofs.YtjpndajbkemnlaaDoor
open Go.RowKit Go.Shelf Go.Maps Go.Sort

/-- All currencies, sorted. -/
def allW : List (List UInt8) := strKeys (tabD (H := Unit))
theorem allW_len : allW.length = 61 := by decide +kernel
theorem allW_pair : allW.Pairwise (fun a b => leB a b = true) := by decide +kernel
theorem allW_sorted : allW.mergeSort leB = allW := List.mergeSort_of_pairwise allW_pair
theorem tab_size : Maps.size (tabD (H := Unit)) = 61 := by decide +kernel

set_option maxRecDepth 100000 in
set_option maxHeartbeats 1000000 in
theorem all_any (w : World) :
    Calls Tryd.prog 11 #[] w fun e w' => ∃ v, e = .returned v ∧ w'.ownsRow w.heap.size 9 1 v 61 (allW.map encStr) ∧ v ≠ .slice none 0 0 ∧ Below w.heap.size w w' := by
  have hz := hid (And.intro (show Maps.size (tabD (H := Unit)) ≤ maxLen by rw [tab_size]; decide) (show Maps.size (tabD (H := Unit)) * 16 ≤ 140737488355328 by rw [tab_size]; decide))
  go_enter Tryd.func11, Tryd.ntmps11
  go_wp2_with (first
    | (go_at_call 20; with_reducible refine (table_any Unit _).mono ?_; rintro e w1 ⟨rfl, hown, hb⟩)
    | (go_at_call 22; refine (callsIn_wide.1 (Tryd.maps_Keys_22 _ _)).mono ?_; rintro e w' ⟨rfl, rfl⟩)
    | (go_at_call 21; refine (callsIn_wide.1 (Tryd.slices_Sorted_keys_21_22 w.heap.size 61 _ _ w1 hown hz.out.1 hz.out.2)).mono ?_; rintro e w' ⟨v, ss, rfl, hS, hrow, hnil, hb2⟩)
    | go_in)
  go_returns
  have e1 : ss.mergeSort (fun x y => decide (x ≤ y)) = allW := (mergeSort_of_perm hS).trans allW_sorted
  have e2 : ss.length = 61 := by rw [hS.length_eq]; exact allW_len
  rw [e1, e2] at hrow
  refine ⟨_, rfl, ownsRow_base_a hrow (by have := hb.size; simp; omega), ?_, (hb.alloc hb.size _).trans (hb2.mono (by have := hb.size; simp; omega))⟩
  intro hv
  rw [hnil.1 hv] at e2
  cases e2
end Go.Proofs.YtjpndajbkemnlaaDoor
