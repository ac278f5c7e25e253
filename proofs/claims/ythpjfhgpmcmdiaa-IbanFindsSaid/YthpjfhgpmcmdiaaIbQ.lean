/-
  Account numbers: the program's Rest, Check, Make.
-/
import Derived.Test.YthpjfhgpmcmdiaaIbP
import Derived.Test.YthpjfhgpmcmdiaaIbT
import Derived.Test.YthpjfhgpmcmdiaaIbC
namespace Go.Proofs.Ythpjfhgpmcmdiaa
open Go.RowKit

theorem ibrest_any (s : ByteArray) (w : World) (hs : s.size ≤ 1000) :
    Calls Try.prog 7 #[.string s] w fun e w' => e = .returned (.tuple #[.int .i64 ((restV s.data.toList).1 : Nat), .bool (restV s.data.toList).2]) ∧ Below w.heap.size w w' := by
  have hl : s.data.toList.length = s.size := by simp
  by_cases h4 : 4 ≤ s.size
  · by_cases hb : s.data.toList.all ibOk = true
    · rw [restV, if_pos ⟨by omega, hb⟩]
      exact ibrest_good s w hs h4 hb
    · rw [restV, if_neg (fun h => hb h.2)]
      exact ibrest_bad s w hs (.inr ⟨h4, by simpa using hb⟩)
  · rw [restV, if_neg (fun h => h4 (by omega))]
    exact ibrest_bad s w hs (.inl (by omega))

theorem dg_true {c : UInt8} (h : ibDg c = true) : (decide (48 ≤ c.toNat) && decide (c.toNat ≤ 57)) = true := h
theorem dg_false {c : UInt8} (h : ¬ ibDg c = true) : (decide (48 ≤ c.toNat) && decide (c.toNat ≤ 57)) = false := Bool.eq_false_iff.mpr h

set_option maxHeartbeats 1000000 in
theorem ibcheck_bad (s : ByteArray) (w : World) (h : s.size < 4 ∨ ∃ h : 4 ≤ s.size, ¬ ibDg (s[2]'(by omega)) = true ∨ ibDg (s[2]'(by omega)) = true ∧ ¬ ibDg (s[3]'(by omega)) = true) :
    Calls Try.prog 11 #[.string s] w fun e w' => e = .returned (.int .i64 13) ∧ Below w.heap.size w w' := by
  rcases h with h | ⟨h4, h | ⟨h1, h2⟩⟩
  · go_enter Try.func11, Try.ntmps11
    go_wp2
    go_returns
    exact ⟨rfl, Below.refl _ _⟩
  · have E2 := hid (dg_false h)
    have k2 : 2 < s.size := by omega
    clear h
    go_enter Try.func11, Try.ntmps11
    go_wp2_with (go_at_call 18; with_reducible refine (isDigit_any _ _).mono ?_; rintro e w' ⟨rfl, rfl⟩; rw [E2.out])
    go_returns
    exact ⟨rfl, Below.refl _ _⟩
  · have E2 := hid (dg_true h1)
    have E3 := hid (dg_false h2)
    have k2 : 2 < s.size := by omega
    have k3 : 3 < s.size := by omega
    clear h1 h2
    go_enter Try.func11, Try.ntmps11
    go_wp2_with (go_at_call 18; with_reducible refine (isDigit_any _ _).mono ?_; rintro e w' ⟨rfl, rfl⟩; (first | rw [E2.out] | rw [E3.out]))
    go_returns
    exact ⟨rfl, Below.refl _ _⟩

set_option maxHeartbeats 2000000 in
theorem ibcheck_good (s : ByteArray) (w : World) (hs : s.size ≤ 1000) (h4 : 4 ≤ s.size) (h2 : ibDg s[2] = true) (h3 : ibDg s[3] = true)
    (n r : Nat) (is ok : Bool) (hn : lenV (s.data.toList.take 2) = (n, is)) (hr : restV s.data.toList = (r, ok)) (x : Int) (hx : (if is = true ∧ ok = true ∧ n = s.size ∧ r = 1 then 0 else 13) = x) :
    Calls Try.prog 11 #[.string s] w fun e w' => e = .returned (.int .i64 x) ∧ Below w.heap.size w w' := by
  have HN := hid hn
  have HR := hid hr
  have E2 := hid (dg_true h2)
  have E3 := hid (dg_true h3)
  clear hn hr h2 h3
  have k2 : 2 < s.size := by omega
  have k3 : 3 < s.size := by omega
  have HE := hid (ext2_list s)
  cases is
  · rw [if_neg (by simp)] at hx
    subst hx
    go_enter Try.func11, Try.ntmps11
    go_wp2_with (first
      | (go_at_call 18; with_reducible refine (isDigit_any _ _).mono ?_; rintro e w' ⟨rfl, hw'⟩; obtain rfl := hw'.symm; (first | rw [E2.out] | rw [E3.out]))
      | (go_at_call 9; with_reducible refine (iblength_any _ _ (by simp only [ByteArray.size_extract]; omega)).mono ?_; rintro e w1 ⟨rfl, h1'⟩; rw [HE.out, HN.out]))
    go_returns
    exact ⟨rfl, h1'⟩
  · by_cases hz : n = s.size
    · cases ok
      · rw [if_neg (by simp)] at hx
        subst hx hz
        go_enter Try.func11, Try.ntmps11
        go_wp2_with (first
          | (go_at_call 18; with_reducible refine (isDigit_any _ _).mono ?_; rintro e w' ⟨rfl, hw'⟩; obtain rfl := hw'.symm; (first | rw [E2.out] | rw [E3.out]))
          | (go_at_call 9; with_reducible refine (iblength_any _ _ (by simp only [ByteArray.size_extract]; omega)).mono ?_; rintro e w1 ⟨rfl, h1'⟩; rw [HE.out, HN.out])
          | (go_at_call 7; with_reducible refine (ibrest_any _ _ hs).mono ?_; rintro e w2 ⟨rfl, h2'⟩; rw [HR.out]))
        go_returns
        exact ⟨rfl, h1'.trans (h2'.mono h1'.size)⟩
      · by_cases hr1 : r = 1
        · rw [if_pos ⟨rfl, rfl, hz, hr1⟩] at hx
          subst hx hz hr1
          go_enter Try.func11, Try.ntmps11
          go_wp2_with (first
            | (go_at_call 18; with_reducible refine (isDigit_any _ _).mono ?_; rintro e w' ⟨rfl, hw'⟩; obtain rfl := hw'.symm; (first | rw [E2.out] | rw [E3.out]))
            | (go_at_call 9; with_reducible refine (iblength_any _ _ (by simp only [ByteArray.size_extract]; omega)).mono ?_; rintro e w1 ⟨rfl, h1'⟩; rw [HE.out, HN.out])
            | (go_at_call 7; with_reducible refine (ibrest_any _ _ hs).mono ?_; rintro e w2 ⟨rfl, h2'⟩; rw [HR.out]))
          go_returns
          exact ⟨rfl, h1'.trans (h2'.mono h1'.size)⟩
        · rw [if_neg (fun hh => hr1 hh.2.2.2)] at hx
          subst hx hz
          have hr2 : ((r : Int) == 1) = false := by rw [beq_eq_false_iff_ne]; omega
          clear hr1
          go_enter Try.func11, Try.ntmps11
          go_wp2_with (first
            | (go_at_call 18; with_reducible refine (isDigit_any _ _).mono ?_; rintro e w' ⟨rfl, hw'⟩; obtain rfl := hw'.symm; (first | rw [E2.out] | rw [E3.out]))
            | (go_at_call 9; with_reducible refine (iblength_any _ _ (by simp only [ByteArray.size_extract]; omega)).mono ?_; rintro e w1 ⟨rfl, h1'⟩; rw [HE.out, HN.out])
            | (go_at_call 7; with_reducible refine (ibrest_any _ _ hs).mono ?_; rintro e w2 ⟨rfl, h2'⟩; rw [HR.out]))
          go_returns
          exact ⟨rfl, h1'.trans (h2'.mono h1'.size)⟩
    · rw [if_neg (fun hh => hz hh.2.2.1)] at hx
      subst hx
      have hz2 : ((s.size : Int) == (n : Int)) = false := by rw [beq_eq_false_iff_ne]; omega
      clear hz
      go_enter Try.func11, Try.ntmps11
      go_wp2_with (first
        | (go_at_call 18; with_reducible refine (isDigit_any _ _).mono ?_; rintro e w' ⟨rfl, hw'⟩; obtain rfl := hw'.symm; (first | rw [E2.out] | rw [E3.out]))
        | (go_at_call 9; with_reducible refine (iblength_any _ _ (by simp only [ByteArray.size_extract]; omega)).mono ?_; rintro e w1 ⟨rfl, h1'⟩; rw [HE.out, HN.out]))
      go_returns
      exact ⟨rfl, h1'⟩

theorem ibcheck_any (s : ByteArray) (w : World) (hs : s.size ≤ 1000) :
    Calls Try.prog 11 #[.string s] w fun e w' => e = .returned (.int .i64 (checkV s.data.toList)) ∧ Below w.heap.size w w' := by
  have hl : s.data.toList.length = s.size := by simp
  by_cases h4 : 4 ≤ s.size
  · have e2 := byte_at s 2 (by omega)
    have e3 := byte_at s 3 (by omega)
    by_cases h2 : ibDg (s[2]'(by omega)) = true
    · by_cases h3 : ibDg (s[3]'(by omega)) = true
      · have hg := ibcheck_good s w hs h4 h2 h3 _ _ _ _ rfl rfl _ rfl
        have ec : checkV s.data.toList = if (lenV (s.data.toList.take 2)).2 = true ∧ (restV s.data.toList).2 = true ∧ (lenV (s.data.toList.take 2)).1 = s.size ∧ (restV s.data.toList).1 = 1 then 0 else 13 := by
          rw [checkV, e2, e3, hl]
          by_cases hc : (lenV (s.data.toList.take 2)).2 = true ∧ (restV s.data.toList).2 = true ∧ (lenV (s.data.toList.take 2)).1 = s.size ∧ (restV s.data.toList).1 = 1
          · rw [if_pos hc, if_pos ⟨h4, h2, h3, Prod.ext hc.2.2.1 hc.1, Prod.ext hc.2.2.2 hc.2.1⟩]
          · rw [if_neg hc, if_neg]
            rintro ⟨_, _, _, q1, q2⟩
            exact hc ⟨by rw [q1], by rw [q2], by rw [q1], by rw [q2]⟩
        rw [ec]
        exact hg
      · rw [check_no s.data.toList (by rw [e2, e3]; exact fun h => h3 h.2.2)]
        exact ibcheck_bad s w (.inr ⟨h4, .inr ⟨h2, h3⟩⟩)
    · rw [check_no s.data.toList (by rw [e2, e3]; exact fun h => h2 h.2.1)]
      exact ibcheck_bad s w (.inr ⟨h4, .inl h2⟩)
  · rw [check_no s.data.toList (by simp; omega)]
    exact ibcheck_bad s w (.inl (by omega))
end Go.Proofs.Ythpjfhgpmcmdiaa
