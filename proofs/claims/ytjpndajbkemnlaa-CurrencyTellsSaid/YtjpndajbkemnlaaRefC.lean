/-
  The document's own answers for currencies: Words, Digits.
-/
import Derived.Test.YtjpndajbkemnlaaCurA
namespace Go.Proofs.Ytjpndajbkemnlaa
open Go.RowKit Go.Shelf

/-- The document's text of the currencies with n digits. -/
def wtxt : Nat → List UInt8
  | 0 => txtNone ++ [32]
  | 2 => txtTwo ++ [32]
  | 3 => txtThree ++ [32]
  | 4 => txtFour ++ [32]
  | _ => []
def wlst : Nat → List Wrd
  | 0 => lstNone
  | 2 => lstTwo
  | 3 => lstThree
  | 4 => lstFour
  | _ => []
def wstr (n : Nat) : ByteArray := ⟨(wtxt n).toArray⟩
theorem wstr_size : ∀ n, n < 5 → (wstr n).size = 4 * (wlst n).length := by decide +kernel
theorem wlst_len : ∀ n, n < 5 → (wlst n).length ≤ 36 := by decide +kernel
theorem wstr_at : ∀ n, n < 5 → ∀ j, j < 36 → j < (wlst n).length → ((wstr n).extract (4 * j) (4 * j + 3)).data.toList = ((wlst n).map (·.1)).getD j [] := by decide +kernel

set_option maxHeartbeats 400000 in
theorem words0 (w : World) : Calls Try.prog 15 #[.int .i64 0] w fun e w' => e = .returned (.string (wstr 0)) ∧ w' = w := by
  go_enter Try.func15, Try.ntmps15
  go_wp2
  go_returns
  exact ⟨rfl, rfl⟩
set_option maxHeartbeats 400000 in
theorem words1 (w : World) : Calls Try.prog 15 #[.int .i64 1] w fun e w' => e = .returned (.string (wstr 1)) ∧ w' = w := by
  go_enter Try.func15, Try.ntmps15
  go_wp2
  go_returns
  exact ⟨rfl, rfl⟩
set_option maxHeartbeats 400000 in
theorem words2 (w : World) : Calls Try.prog 15 #[.int .i64 2] w fun e w' => e = .returned (.string (wstr 2)) ∧ w' = w := by
  go_enter Try.func15, Try.ntmps15
  go_wp2
  go_returns
  exact ⟨rfl, rfl⟩
set_option maxHeartbeats 400000 in
theorem words3 (w : World) : Calls Try.prog 15 #[.int .i64 3] w fun e w' => e = .returned (.string (wstr 3)) ∧ w' = w := by
  go_enter Try.func15, Try.ntmps15
  go_wp2
  go_returns
  exact ⟨rfl, rfl⟩
set_option maxHeartbeats 400000 in
theorem words4 (w : World) : Calls Try.prog 15 #[.int .i64 4] w fun e w' => e = .returned (.string (wstr 4)) ∧ w' = w := by
  go_enter Try.func15, Try.ntmps15
  go_wp2
  go_returns
  exact ⟨rfl, rfl⟩
theorem words_of (n : Nat) (hn : n < 5) (w : World) : Calls Try.prog 15 #[.int .i64 (n : Nat)] w fun e w' => e = .returned (.string (wstr n)) ∧ w' = w := by
  match n, hn with
  | 0, _ => exact words0 w
  | 1, _ => exact words1 w
  | 2, _ => exact words2 w
  | 3, _ => exact words3 w
  | 4, _ => exact words4 w

/-- The text is no word of fewer than n digits. -/
def NoW (l : List UInt8) (n : Nat) : Prop := ∀ m, m < n → memW l (wlst m) = false
/-- The text is none of the first j words of n digits. -/
def NoJ (l : List UInt8) (n j : Nat) : Prop := ∀ i, i < j → ((wlst n).map (·.1)).getD i [] ≠ l
theorem noW_zero (l : List UInt8) : NoW l 0 := fun _ h => absurd h (Nat.not_lt_zero _)
theorem noJ_zero (l : List UInt8) (n : Nat) : NoJ l n 0 := fun _ h => absurd h (Nat.not_lt_zero _)
theorem noJ_succ {l : List UInt8} {n j : Nat} (h : NoJ l n j) (hj : ((wlst n).map (·.1)).getD j [] ≠ l) : NoJ l n (j + 1) := fun i hi => by
  by_cases e : i = j
  · subst e; exact hj
  · exact h i (by omega)
theorem mem_none {l : List UInt8} (xs : List Wrd) : (∀ i, i < xs.length → (xs.map (·.1)).getD i [] ≠ l) → memW l xs = false := by
  intro h
  simp only [memW, List.any_eq_false, beq_iff_eq]
  intro x hx e
  obtain ⟨i, hi, rfl⟩ := List.mem_iff_getElem.1 hx
  refine h i hi ?_
  rw [List.getD_eq_getElem?_getD, List.getElem?_map, List.getElem?_eq_getElem hi]
  simpa using e
theorem mem_some {l : List UInt8} (xs : List Wrd) (i : Nat) (hi : i < xs.length) (h : (xs.map (·.1)).getD i [] = l) : memW l xs = true := by
  rw [List.getD_eq_getElem?_getD, List.getElem?_map, List.getElem?_eq_getElem hi] at h
  simp only [memW, List.any_eq_true, beq_iff_eq]
  exact ⟨xs[i], List.getElem_mem hi, by simpa using h⟩
theorem noW_succ {l : List UInt8} {n : Nat} (h : NoW l n) (hj : NoJ l n (wlst n).length) : NoW l (n + 1) := fun m hm => by
  by_cases e : m = n
  · subst e; exact mem_none _ hj
  · exact h m (by omega)

/-- Words of one kind are none of another. -/
theorem apart : ((lstFour.all fun x => !memW x.1 lstThree && !memW x.1 lstTwo && !memW x.1 lstNone) && (lstThree.all fun x => !memW x.1 lstTwo && !memW x.1 lstNone) && (lstTwo.all fun x => !memW x.1 lstNone)) = true := by decide +kernel
theorem mem_of {l : List UInt8} {xs : List Wrd} (h : memW l xs = true) : ∃ x ∈ xs, x.1 = l := by
  simpa [memW] using h
theorem dig_hit {l : List UInt8} {n : Nat} (hn : n < 5) (h : NoW l n) (hm : memW l (wlst n) = true) : digV l = (((n : Nat) : Int), true) := by
  have ha := apart
  simp only [Bool.and_eq_true, List.all_eq_true, Bool.not_eq_true'] at ha
  match n, hn with
  | 0, _ =>
    have h4 : memW l lstFour = false := by
      cases e : memW l lstFour
      · rfl
      · obtain ⟨x, hx, rfl⟩ := mem_of e
        exact absurd hm (by rw [show memW x.1 (wlst 0) = false from (ha.1.1 x hx).2]; decide)
    have h3 : memW l lstThree = false := by
      cases e : memW l lstThree
      · rfl
      · obtain ⟨x, hx, rfl⟩ := mem_of e
        exact absurd hm (by rw [show memW x.1 (wlst 0) = false from (ha.1.2 x hx).2]; decide)
    have h2 : memW l lstTwo = false := by
      cases e : memW l lstTwo
      · rfl
      · obtain ⟨x, hx, rfl⟩ := mem_of e
        exact absurd hm (by rw [show memW x.1 (wlst 0) = false from ha.2 x hx]; decide)
    have h0 : memW l lstNone = true := hm
    rw [digV, h4, h3, h2, h0]; rfl
  | 1, _ => cases hm
  | 2, _ =>
    have h4 : memW l lstFour = false := by
      cases e : memW l lstFour
      · rfl
      · obtain ⟨x, hx, rfl⟩ := mem_of e
        exact absurd hm (by rw [show memW x.1 (wlst 2) = false from (ha.1.1 x hx).1.2]; decide)
    have h3 : memW l lstThree = false := by
      cases e : memW l lstThree
      · rfl
      · obtain ⟨x, hx, rfl⟩ := mem_of e
        exact absurd hm (by rw [show memW x.1 (wlst 2) = false from (ha.1.2 x hx).1]; decide)
    have h0 : memW l lstTwo = true := hm
    rw [digV, h4, h3, h0]; rfl
  | 3, _ =>
    have h4 : memW l lstFour = false := by
      cases e : memW l lstFour
      · rfl
      · obtain ⟨x, hx, rfl⟩ := mem_of e
        exact absurd hm (by rw [show memW x.1 (wlst 3) = false from (ha.1.1 x hx).1.1]; decide)
    have h0 : memW l lstThree = true := hm
    rw [digV, h4, h0]; rfl
  | 4, _ =>
    have h0 : memW l lstFour = true := hm
    rw [digV, h0]; rfl
theorem dig_miss {l : List UInt8} (h : NoW l 5) : digV l = (0, false) := by
  have h0 : memW l lstNone = false := h 0 (by omega)
  have h2 : memW l lstTwo = false := h 2 (by omega)
  have h3 : memW l lstThree = false := h 3 (by omega)
  have h4 : memW l lstFour = false := h 4 (by omega)
  rw [digV, h4, h3, h2, h0]; rfl

theorem str_eq {a b : ByteArray} (h : a.data.toList = b.data.toList) : a = b := by
  cases a; cases b
  exact congrArg ByteArray.mk (Array.toList_inj.1 h)

set_option maxHeartbeats 2000000 in
theorem refDigits_any (s : ByteArray) (w : World) :
    Calls Try.prog 8 #[.string s] w fun e w' => e = .returned (.tuple #[.int .i64 (digV s.data.toList).1, .bool (digV s.data.toList).2]) ∧ w' = w := by
  generalize hv : digV s.data.toList = v
  obtain ⟨d, is⟩ := v
  have HV := hid hv
  clear hv
  dsimp only
  go_enter Try.func8, Try.ntmps8
  go_wp2
  go_loop [4] (fun n => ∃ k : Nat, k ≤ 5 ∧ n = .int .i64 k ∧ NoW s.data.toList k) (fun n => 5 - (intOf n).toNat)
  case atStart => exact ⟨0, by omega, rfl, noW_zero _⟩
  case round =>
    obtain ⟨k, hk, rfl, hn⟩ := hrel
    have HN := hid hn
    clear hn
    by_cases hlt : k < 5
    · have hk4 : k ≤ 4 := by omega
      have hz := wstr_size k hlt
      have hl := wlst_len k hlt
      go_wp2_with (go_at_call 15; with_reducible refine (words_of k hlt _).mono ?_; rintro e w' ⟨rfl, rfl⟩)
      go_loop [6] (fun i => ∃ j : Nat, j ≤ (wlst k).length ∧ i = .int .i64 ((4 * j : Nat) : Int) ∧ NoJ s.data.toList k j) (fun i => 4 * (wlst k).length - (intOf i).toNat)
      case atStart => exact ⟨0, by omega, rfl, noJ_zero _ _⟩
      case round =>
        obtain ⟨j, hj, rfl, hm⟩ := hrel
        have HM := hid hm
        clear hm
        by_cases hjl : j < (wlst k).length
        · have hx := hid (wstr_at k hlt j (by omega) hjl)
          by_cases hE0 : (wstr k).extract (4 * j) (4 * j + 3) = s
          · have hq := hid (dig_hit hlt HN.out (mem_some _ j hjl (hx.out.symm.trans (by rw [hE0]))))
            have hE : (((wstr k).extract (4 * j) (4 * j + 3)).toList == s.toList) = true := by rw [hE0]; exact beq_self_eq_true _
            clear hE0
            go_wp2
            go_returns
            have hq := hq.out
            rw [HV.out] at hq
            cases hq
            exact ⟨rfl, rfl⟩
          · have hM := hid (noJ_succ HM.out (fun e => hE0 (str_eq (hx.out.trans e))))
            have hE : (((wstr k).extract (4 * j) (4 * j + 3)).toList == s.toList) = false := by
              rw [beq_eq_false_iff_ne, ByteArray.toList_eq, ByteArray.toList_eq]
              exact fun e => hE0 (str_eq e)
            clear hE0
            go_wp2
            go_round
            case rel => exact ⟨j + 1, by omega, by go_num, hM.out⟩
            case measure => simp [intOf]; omega
        · obtain rfl : j = (wlst k).length := by omega
          have hM := hid (noW_succ HN.out HM.out)
          go_wp2
          go_round
          case rel => exact ⟨k + 1, by omega, by go_num, hM.out⟩
          case measure => simp [intOf]; omega
    · obtain rfl : k = 5 := by omega
      have h5 := dig_miss HN.out
      go_wp2
      go_returns
      rw [HV.out] at h5
      cases h5
      exact ⟨rfl, rfl⟩
end Go.Proofs.Ytjpndajbkemnlaa
