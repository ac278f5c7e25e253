/-
  The document's own answers for account numbers: Check.
-/
import Derived.Test.YthpjfhgpmcmdiaaIbR
namespace Go.Proofs.Ythpjfhgpmcmdiaa
open Go.RowKit

theorem ext2_list (s : ByteArray) : (s.extract 0 2).data.toList = s.data.toList.take 2 := by
  rw [ByteArray.data_extract, Array.toList_extract, List.extract_eq_take_drop, List.drop_zero]
theorem byte_at (s : ByteArray) (k : Nat) (h : k < s.size) : s.data.toList.getD k 0 = s[k] := by
  rw [List.getD_eq_getElem?_getD, List.getElem?_eq_getElem (by simpa using h)]
  rfl
theorem check_no (l : List UInt8) (h : ¬ (4 ≤ l.length ∧ ibDg (l.getD 2 0) = true ∧ ibDg (l.getD 3 0) = true)) : checkV l = 13 := by
  rw [checkV, if_neg]
  exact fun hh => h ⟨hh.1, hh.2.1, hh.2.2.1⟩
theorem dg_no {c : UInt8} (h : c.toNat < 48 ∨ 57 < c.toNat) : ¬ ibDg c = true := by
  simp only [ibDg, Bool.and_eq_true, decide_eq_true_eq]
  omega
theorem dg_yes {c : UInt8} (h : 48 ≤ c.toNat) (h' : c.toNat ≤ 57) : ibDg c = true := by
  simp [ibDg, h, h']

set_option maxHeartbeats 1000000 in
theorem refCheck_bad (s : ByteArray) (w : World) (h : s.size < 4 ∨ ∃ h : 4 ≤ s.size, (s[2]'(by omega)).toNat < 48 ∨ 57 < (s[2]'(by omega)).toNat ∨
      48 ≤ (s[2]'(by omega)).toNat ∧ (s[2]'(by omega)).toNat ≤ 57 ∧ ((s[3]'(by omega)).toNat < 48 ∨ 57 < (s[3]'(by omega)).toNat)) :
    Calls Try.prog 12 #[.string s] w fun e w' => e = .returned (.int .i64 13) ∧ Below w.heap.size w w' := by
  rcases h with h | ⟨h4, h | h | ⟨h1, h2, h | h⟩⟩
  · go_enter Try.func12, Try.ntmps12
    go_wp2
    go_returns
    exact ⟨rfl, Below.refl _ _⟩
  · have k2 : 2 < s.size := by omega
    have k3 : 3 < s.size := by omega
    go_enter Try.func12, Try.ntmps12
    go_wp2
    go_returns
    exact ⟨rfl, Below.refl _ _⟩
  · have k2 : 2 < s.size := by omega
    have k3 : 3 < s.size := by omega
    have k4 : 48 ≤ s[2].toNat := by omega
    go_enter Try.func12, Try.ntmps12
    go_wp2
    go_returns
    exact ⟨rfl, Below.refl _ _⟩
  · have k2 : 2 < s.size := by omega
    have k3 : 3 < s.size := by omega
    go_enter Try.func12, Try.ntmps12
    go_wp2
    go_returns
    exact ⟨rfl, Below.refl _ _⟩
  · have k2 : 2 < s.size := by omega
    have k3 : 3 < s.size := by omega
    have k4 : 48 ≤ s[3].toNat := by omega
    go_enter Try.func12, Try.ntmps12
    go_wp2
    go_returns
    exact ⟨rfl, Below.refl _ _⟩

set_option maxHeartbeats 4000000 in
theorem refCheck_good (s : ByteArray) (w : World) (hs : s.size ≤ 1000) (h4 : 4 ≤ s.size) (h1 : 48 ≤ s[2].toNat) (h2 : s[2].toNat ≤ 57) (h3 : 48 ≤ s[3].toNat) (h5 : s[3].toNat ≤ 57)
    (n r : Nat) (is ok : Bool) (hn : lenV (s.data.toList.take 2) = (n, is)) (hr : restV s.data.toList = (r, ok)) (x : Int) (hx : (if is = true ∧ ok = true ∧ n = s.size ∧ r = 1 then 0 else 13) = x) :
    Calls Try.prog 12 #[.string s] w fun e w' => e = .returned (.int .i64 x) ∧ Below w.heap.size w w' := by
  have HN := hid hn
  have HR := hid hr
  clear hn hr
  have k2 : 2 < s.size := by omega
  have k3 : 3 < s.size := by omega
  have HE := hid (ext2_list s)
  cases is
  · rw [if_neg (by simp)] at hx
    subst hx
    go_enter Try.func12, Try.ntmps12
    go_wp2_with fail
    with_reducible refine (refLength_any _ _).mono ?_
    rintro e w1 ⟨rfl, h1'⟩
    rw [HE.out, HN.out]
    go_wp2_with fail
    with_reducible refine (refRest_any _ _ hs).mono ?_
    rintro e w2 ⟨rfl, h2'⟩
    rw [HR.out]
    have b2 := h1'.trans (h2'.mono h1'.size)
    go_wp2
    go_returns
    exact ⟨rfl, b2⟩
  · cases ok
    · rw [if_neg (by simp)] at hx
      subst hx
      go_enter Try.func12, Try.ntmps12
      go_wp2_with fail
      with_reducible refine (refLength_any _ _).mono ?_
      rintro e w1 ⟨rfl, h1'⟩
      rw [HE.out, HN.out]
      go_wp2_with fail
      with_reducible refine (refRest_any _ _ hs).mono ?_
      rintro e w2 ⟨rfl, h2'⟩
      rw [HR.out]
      have b2 := h1'.trans (h2'.mono h1'.size)
      go_wp2
      go_returns
      exact ⟨rfl, b2⟩
    · by_cases hn : n = s.size
      · by_cases hr1 : r = 1
        · rw [if_pos ⟨rfl, rfl, hn, hr1⟩] at hx
          subst hn hr1 hx
          go_enter Try.func12, Try.ntmps12
          go_wp2_with fail
          with_reducible refine (refLength_any _ _).mono ?_
          rintro e w1 ⟨rfl, h1'⟩
          rw [HE.out, HN.out]
          go_wp2_with fail
          with_reducible refine (refRest_any _ _ hs).mono ?_
          rintro e w2 ⟨rfl, h2'⟩
          rw [HR.out]
          have b2 := h1'.trans (h2'.mono h1'.size)
          go_wp2
          go_returns
          exact ⟨rfl, b2⟩
        · rw [if_neg (fun hh => hr1 hh.2.2.2)] at hx
          subst hn hx
          have hrb : ((r : Int) == 1) = false := by rw [beq_eq_false_iff_ne]; omega
          go_enter Try.func12, Try.ntmps12
          go_wp2_with fail
          with_reducible refine (refLength_any _ _).mono ?_
          rintro e w1 ⟨rfl, h1'⟩
          rw [HE.out, HN.out]
          go_wp2_with fail
          with_reducible refine (refRest_any _ _ hs).mono ?_
          rintro e w2 ⟨rfl, h2'⟩
          rw [HR.out]
          have b2 := h1'.trans (h2'.mono h1'.size)
          clear hr1
          go_wp2
          go_returns
          exact ⟨rfl, b2⟩
      · rw [if_neg (fun hh => hn hh.2.2.1)] at hx
        subst hx
        have hnb : ((n : Int) == (s.size : Int)) = false := by rw [beq_eq_false_iff_ne]; omega
        go_enter Try.func12, Try.ntmps12
        go_wp2_with fail
        with_reducible refine (refLength_any _ _).mono ?_
        rintro e w1 ⟨rfl, h1'⟩
        rw [HE.out, HN.out]
        go_wp2_with fail
        with_reducible refine (refRest_any _ _ hs).mono ?_
        rintro e w2 ⟨rfl, h2'⟩
        rw [HR.out]
        have b2 := h1'.trans (h2'.mono h1'.size)
        clear hn
        go_wp2
        go_returns
        exact ⟨rfl, b2⟩

theorem refCheck_any (s : ByteArray) (w : World) (hs : s.size ≤ 1000) :
    Calls Try.prog 12 #[.string s] w fun e w' => e = .returned (.int .i64 (checkV s.data.toList)) ∧ Below w.heap.size w w' := by
  by_cases h4 : 4 ≤ s.size
  · have e2 := byte_at s 2 (by omega)
    have e3 := byte_at s 3 (by omega)
    by_cases h : (s[2]'(by omega)).toNat < 48 ∨ 57 < (s[2]'(by omega)).toNat ∨
      48 ≤ (s[2]'(by omega)).toNat ∧ (s[2]'(by omega)).toNat ≤ 57 ∧ ((s[3]'(by omega)).toNat < 48 ∨ 57 < (s[3]'(by omega)).toNat)
    · rw [check_no s.data.toList (by
        rw [e2, e3]
        rintro ⟨_, q2, q3⟩
        rcases h with h | h | ⟨_, _, h⟩
        · exact dg_no (.inl h) q2
        · exact dg_no (.inr h) q2
        · exact dg_no h q3)]
      exact refCheck_bad s w (.inr ⟨h4, h⟩)
    · have a1 : 48 ≤ (s[2]'(by omega)).toNat := by omega
      have a2 : (s[2]'(by omega)).toNat ≤ 57 := by omega
      have a3 : 48 ≤ (s[3]'(by omega)).toNat := by omega
      have a4 : (s[3]'(by omega)).toNat ≤ 57 := by omega
      have hl : s.data.toList.length = s.size := by simp
      have hg := refCheck_good s w hs h4 a1 a2 a3 a4 _ _ _ _ rfl rfl _ rfl
      have ec : checkV s.data.toList = if (lenV (s.data.toList.take 2)).2 = true ∧ (restV s.data.toList).2 = true ∧ (lenV (s.data.toList.take 2)).1 = s.size ∧ (restV s.data.toList).1 = 1 then 0 else 13 := by
        rw [checkV, e2, e3, hl]
        by_cases hc : (lenV (s.data.toList.take 2)).2 = true ∧ (restV s.data.toList).2 = true ∧ (lenV (s.data.toList.take 2)).1 = s.size ∧ (restV s.data.toList).1 = 1
        · rw [if_pos hc, if_pos ⟨h4, dg_yes a1 a2, dg_yes a3 a4, Prod.ext hc.2.2.1 hc.1, Prod.ext hc.2.2.2 hc.2.1⟩]
        · rw [if_neg hc, if_neg]
          rintro ⟨_, _, _, q1, q2⟩
          exact hc ⟨by rw [q1], by rw [q2], by rw [q1], by rw [q2]⟩
      rw [ec]
      exact hg
  · rw [check_no s.data.toList (by simp; omega)]
    exact refCheck_bad s w (.inl (by omega))
end Go.Proofs.Ythpjfhgpmcmdiaa
