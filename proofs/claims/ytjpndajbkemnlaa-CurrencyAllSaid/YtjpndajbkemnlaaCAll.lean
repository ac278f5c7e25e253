/-
  The walk of CurrencyAll.
-/
import Derived.Test.YtjpndajbkemnlaaCurW
import Derived.Test.YtjpndajbkemnlaaRefC
import Derived.Deep.QuietTactic
import Derived.BigQuiet
namespace Go.Proofs.Ytjpndajbkemnlaa
open Go.RowKit Go.Shelf Go.Sort

/-- How many currencies have fewer than n digits. -/
def manyN : Nat → Nat
  | 0 => 0
  | n + 1 => manyN n + (wlst n).length
theorem manyN5 : manyN 5 = 61 := by decide +kernel
theorem manyN_le : ∀ n, n < 6 → manyN n ≤ 61 := by decide +kernel
/-- Currency i, as a text. -/
def curS (i : Nat) : ByteArray := ⟨(allW.getD i []).toArray⟩
theorem allW_is : ∀ i, i < 61 → (digV (curS i).data.toList).2 = true := by decide +kernel
theorem allW_less : ∀ i, i < 60 → Op.bytesLess (curS i).data.toList (curS (i + 1)).data.toList = true := by decide +kernel
theorem allW_lessB (i : Nat) (h : i < 60) : Op.bytesLess (curS i).toList (curS (i + 1)).toList = true := by
  rw [ByteArray.toList_eq, ByteArray.toList_eq]
  exact allW_less i h
theorem allW_cell (i : Nat) (hi : i < 61) : (allW.map encStr)[i]? = some (.string (curS i)) := by
  have h : i < allW.length := by rw [allW_len]; exact hi
  rw [List.getElem?_map, List.getElem?_eq_getElem h]
  simp [encStr, curS, List.getD_eq_getElem?_getD, List.getElem?_eq_getElem h]

set_option maxRecDepth 100000 in
set_option maxHeartbeats 4000000 in
theorem callAll_any (w : World) :
    Calls Try.prog 4 #[] w fun e w' => e = .returned (.bool true) ∧ Below w.heap.size w w' := by
  go_enter Try.func4, Try.ntmps4
  go_wp2_with fail
  with_reducible refine (all_any _).mono ?_
  rintro e w1 ⟨v, rfl, hrow, hnn, h1⟩
  obtain ⟨g, cap, rfl⟩ := ownsRow_succ (k := 60) hrow
  have hgl : g < w1.heap.size := by
    rcases hrow.2 with ⟨hn, _⟩ | ⟨g', cap', cur, hv, hb, hh, _⟩
    · cases hn
    · cases hv
      exact (Array.getElem?_eq_some_iff.1 hh).1
  have HC := hid fun (i : Nat) (hi : i < 61) => (World.ownsRow.cellAt hrow i (by omega)).trans (allW_cell i hi)
  clear hrow hnn
  go_wp2
  go_loop [2, 3] (fun m n => ∃ k : Nat, k ≤ 5 ∧ n = .int .i64 k ∧ m = .int .i64 (manyN k : Nat)) (fun _ n => 5 - (intOf n).toNat)
  case atStart => exact ⟨0, by omega, rfl, rfl⟩
  case round =>
    obtain ⟨k, hk, rfl, rfl⟩ := hrel
    by_cases hlt : k < 5
    · have hk4 : k ≤ 4 := by omega
      have hz := wstr_size k hlt
      have hl := wlst_len k hlt
      have hm := manyN_le k (by omega)
      have HS : Hid (manyN (k + 1) = manyN k + (wlst k).length) := rfl
      go_wp2_with (go_at_call 15; with_reducible refine (words_of k hlt _).mono ?_; rintro e w' ⟨rfl, rfl⟩)
      go_round
      case rel => exact ⟨k + 1, by omega, by go_num, by rw [HS.out]; go_num⟩
      case measure => simp [intOf]; omega
    · obtain rfl : k = 5 := by omega
      have e5 := manyN5
      go_wp2
      go_loopw [4] (fun i wr => ∃ j : Nat, j ≤ 61 ∧ i = .int .i64 j ∧ Below w1.heap.size w1 wr) (fun i _ => 61 - (intOf i).toNat)
      case atStart => exact ⟨0, by omega, rfl, Below.refl _ _⟩
      case round =>
        clear e5
        obtain ⟨j, hj, rfl, hb⟩ := hrel
        by_cases hlt : j < 61
        · have c0 : wr.cell? ⟨g, j, none⟩ = some (.string (curS j)) := (hb.cell (p := ⟨g, j, none⟩) hgl).trans (HC.out j hlt)
          have HD := hid (allW_is j hlt)
          go_wp2_with (go_at_call 8; with_reducible refine (refDigits_any _ _).mono ?_; rintro e wr ⟨rfl, rfl⟩; rw [HD.out])
          cases j with
          | zero =>
            go_quiet (fail)
            go_wp2
            go_round
            case rel => exact ⟨1, by omega, by go_num, below_drewN hb _⟩
            case measure => simp [intOf]
          | succ i =>
            have c1 : wr.cell? ⟨g, i, none⟩ = some (.string (curS i)) := (hb.cell (p := ⟨g, i, none⟩) hgl).trans (HC.out i (by omega))
            have hless := allW_lessB i (by omega)
            go_quiet (fail)
            clear hless
            go_wp2
            go_round
            case rel => exact ⟨i + 1 + 1, by omega, by go_num, below_drewN hb _⟩
            case measure => simp [intOf]; omega
        · obtain rfl : j = 61 := by omega
          have e5 := manyN5
          have bw : Below w.heap.size w wr := h1.trans (hb.mono h1.size)
          go_wp2_with (go_at_call 6; with_reducible refine (curwakes_any _).mono ?_; rintro e w2 ⟨rfl, h2⟩)
          go_returns
          exact ⟨rfl, bw.trans (h2.mono bw.size)⟩
end Go.Proofs.Ytjpndajbkemnlaa
