/-
  The document's own answers for days: Text.
-/
import Derived.Test.YtpfmmmedhkgheaaDtD
namespace Go.Proofs.Ytpfmmmedhkgheaa
open Go.RowKit

/-- The text of the k-th month's r-th day, both from 0 on. -/
def textL (k r : Nat) : List UInt8 := dateL (1980 + k / 12) (k % 12 + 1) (r + 1)
theorem textL_len (k r : Nat) : (textL k r).length = 10 := dateL_len _ _ _
/-- Each day lies in a month. -/
theorem day_in {n : Nat} (h : n < 36525) : ∃ k r, k < 1200 ∧ n = cum k + r ∧ r < lenK k := by
  have hx : ∀ j, n < cum j → ∃ k r, n = cum k + r ∧ r < lenK k := by
    intro j
    induction j with
    | zero => intro h; rw [cum] at h; omega
    | succ j ih =>
      intro h
      rw [cum] at h
      rcases Nat.lt_or_ge n (cum j) with h1 | h1
      · exact ih h1
      · exact ⟨j, n - cum j, by omega, by omega⟩
  obtain ⟨k, r, h1, h2⟩ := hx 1200 (by rw [cum_all]; exact h)
  exact ⟨k, r, cum_top (n := n) (by omega) h, h1, h2⟩

set_option maxRecDepth 100000 in
set_option maxHeartbeats 8000000 in
theorem reftext_any (k r : Nat) (w : World) (hk : k < 1200) (hr : r < lenK k) :
    Calls Try.prog 17 #[.int .i64 ((cum k + r : Nat) : Int)] w fun e w' => e = .returned (.string ⟨(textL k r).toArray⟩) ∧ Below w.heap.size w w' := by
  have HL := hid (fun a b (ha : a ≤ 3000) (hb : b ≤ 100) w' => reflength_any a b w' ha hb)
  have HT := hid (fun a b (ha : a ≤ 100000) (hb : b ≤ 10) w' => reftwo_any a b w' ha hb)
  have HM := hid (fun j (hj : j < k) => cum_lt hj)
  have HE := hid (fun j => show lenM (1980 + j / 12) (j % 12 + 1) = lenK j from rfl)
  have HB := hid (fun j => lenK_bound j)
  have HC := hid (fun j => show cum (j + 1) = cum j + lenK j from rfl)
  have hc1 := cum_le (k := k) (by omega)
  have hrb := lenK_bound k
  obtain ⟨T, hT⟩ : ∃ T, T = textL k r := ⟨_, rfl⟩
  rw [← hT]
  have HTT := hid hT
  clear hT
  go_enter Try.func17, Try.ntmps17
  go_wp2
  go_loopw [0, 3, 4] (fun x y m wr => ∃ j : Nat, j ≤ k ∧ cum j ≤ cum k + r ∧ x = .int .i64 ((cum k + r - cum j : Nat) : Int) ∧ y = .int .i64 ((1980 + j / 12 : Nat) : Int) ∧ m = .int .i64 ((j % 12 + 1 : Nat) : Int) ∧ wr = w) (fun x _ _ _ => (intOf x).toNat)
  case atStart => exact ⟨0, Nat.zero_le _, by simp [cum], by simp [cum], rfl, rfl, rfl⟩
  case round =>
    obtain ⟨j, hj, hjc, rfl, rfl, rfl, hwr⟩ := hrel
    obtain rfl := hwr.symm
    have hE := hid (HE.out j)
    have hB := HB.out j
    have hC := HC.out j
    have hy1 : 1980 ≤ 1980 + j / 12 := by omega
    have hy2 : 1980 + j / 12 ≤ 2080 := by omega
    have hm1 : 1 ≤ j % 12 + 1 := by omega
    have hm2 : j % 12 + 1 ≤ 12 := by omega
    by_cases hlt : j < k
    · have hcm := HM.out j hlt
      have hL := fun w' => HL.out (1980 + j / 12) (j % 12 + 1) (by omega) (by omega) w'
      rw [hE.out] at hL
      have HL2 := hid hL
      clear hL
      by_cases h12 : j % 12 = 11
      · have HN := hid (show (j + 1) % 12 + 1 = 1 ∧ 1980 + (j + 1) / 12 = 1980 + j / 12 + 1 by omega)
        have hn : cum k + r - cum j = (cum k + r - cum (j + 1)) + lenK j := by rw [hC]; omega
        have hx : cum (j + 1) ≤ cum k + r := by rw [hC]; omega
        have HX := hid hx
        clear hC hcm hx hE
        have hm12 : j % 12 + 1 = 12 := by omega
        rw [hm12] at HL2 ⊢
        rw [hn]
        clear hn hm12
        have hn2 : cum k + r - cum (j + 1) ≤ 40000 := by omega
        obtain ⟨n', hq⟩ : ∃ n', n' = cum k + r - cum (j + 1) := ⟨_, rfl⟩
        rw [← hq] at hn2 ⊢
        have HQ := hid hq
        clear hq
        generalize 1980 + j / 12 = Y at *
        generalize lenK j = L at *
        go_wp2_with (go_at_call 28; refine (HL2.out _).mono ?_; rintro e w' ⟨rfl, hw'⟩; obtain rfl := hw'.symm)
        go_roundw
        case rel => exact ⟨j + 1, by omega, HX.out, by rw [← HQ.out], by rw [HN.out.2]; go_num, by rw [HN.out.1]; rfl, trivial⟩
        case measure => simp [intOf]; omega
      · have HN := hid (show (j + 1) % 12 + 1 = j % 12 + 1 + 1 ∧ 1980 + (j + 1) / 12 = 1980 + j / 12 by omega)
        have hn : cum k + r - cum j = (cum k + r - cum (j + 1)) + lenK j := by rw [hC]; omega
        have hx : cum (j + 1) ≤ cum k + r := by rw [hC]; omega
        have HX := hid hx
        clear hC hcm hx hE
        have hm12 : j % 12 + 1 ≤ 11 := by omega
        rw [hn]
        clear hn h12
        have hn2 : cum k + r - cum (j + 1) ≤ 40000 := by omega
        obtain ⟨n', hq⟩ : ∃ n', n' = cum k + r - cum (j + 1) := ⟨_, rfl⟩
        rw [← hq] at hn2 ⊢
        have HQ := hid hq
        clear hq
        generalize 1980 + j / 12 = Y at *
        generalize j % 12 + 1 = M at *
        generalize lenK j = L at *
        go_wp2_with (go_at_call 28; refine (HL2.out _).mono ?_; rintro e w' ⟨rfl, hw'⟩; obtain rfl := hw'.symm)
        go_roundw
        case rel => exact ⟨j + 1, by omega, HX.out, by rw [← HQ.out], by rw [HN.out.2], by rw [HN.out.1]; go_num, trivial⟩
        case measure => simp [intOf]; omega
    · obtain rfl : j = k := by omega
      have hL := fun w' => HL.out (1980 + j / 12) (j % 12 + 1) (by omega) (by omega) w'
      rw [hE.out] at hL
      have hn : cum j + r - cum j = r := by omega
      rw [hn]
      have hV : T = twoL (1980 + j / 12) 4 ++ [45] ++ twoL (j % 12 + 1) 2 ++ [45] ++ twoL (r + 1) 2 := HTT.out
      have HL2 := hid hL
      have T1 := hid (fun w' => HT.out (1980 + j / 12) 4 (by omega) (by omega) w')
      have T2 := hid (fun w' => HT.out (j % 12 + 1) 2 (by omega) (by omega) w')
      have T3 := hid (fun w' => HT.out (r + 1) 2 (by omega) (by omega) w')
      have z1 := twoL_len (1980 + j / 12) 4
      have z2 := twoL_len (j % 12 + 1) 2
      have z3 := twoL_len (r + 1) 2
      clear hL hn hC hjc hE HTT
      generalize twoL (1980 + j / 12) 4 = t1 at *
      generalize twoL (j % 12 + 1) 2 = t2 at *
      generalize twoL (r + 1) 2 = t3 at *
      generalize 1980 + j / 12 = Y at *
      generalize j % 12 + 1 = M at *
      generalize lenK j = L at *
      have HV := hid hV
      clear hV
      have C := hid (show (⟨t1.toArray⟩ : ByteArray) ++ ⟨#[45]⟩ ++ ⟨t2.toArray⟩ ++ ⟨#[45]⟩ ++ ⟨t3.toArray⟩ = ⟨(t1 ++ [45] ++ t2 ++ [45] ++ t3).toArray⟩ by
        refine ib_str_eq ?_; simp)
      go_wp2_with (first
        | (go_at_call 28; refine (HL2.out _).mono ?_; rintro e w' ⟨rfl, hw'⟩; obtain rfl := hw'.symm)
        | fail)
      refine (T1.out _).mono ?_
      rintro e w1 ⟨rfl, b1⟩
      go_wp2_with fail
      refine (T2.out _).mono ?_
      rintro e w2 ⟨rfl, b2⟩
      go_wp2_with fail
      refine (T3.out _).mono ?_
      rintro e w3 ⟨rfl, b3⟩
      go_wp2
      go_returns
      rw [C.out, HV.out]
      exact ⟨rfl, (b1.trans (b2.mono b1.size)).trans (b3.mono (b1.trans (b2.mono b1.size)).size)⟩
end Go.Proofs.Ytpfmmmedhkgheaa
