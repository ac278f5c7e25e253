/-
  The document's own answer for how wide a character is: size.
-/
import Derived.Test.YthmfojkklianlaaChR
import Derived.Laws.BitsLemmas
namespace Go.Proofs.Ythmfojkklianlaa
open Go.RowKit

/-- The number that the first k bytes of a character say, if its first one says c0. -/
def vS (l : List UInt8) (c0 : Nat) : Nat → Nat
  | 0 => c0
  | 1 => c0
  | k + 2 => vS l c0 (k + 1) * 64 + (l.getD (k + 1) 0).toNat % 64
/-- The bytes behind the first one, up to k, go on. -/
def ConS (l : List UInt8) (k : Nat) : Prop := ∀ j, 1 ≤ j → j < k → (l.getD j 0).toNat / 64 = 2
theorem vS_step (l : List UInt8) (c0 k : Nat) (h : 1 ≤ k) : vS l c0 (k + 1) = vS l c0 k * 64 + (l.getD k 0).toNat % 64 := by
  cases k with
  | zero => omega
  | succ k => rfl
theorem vS_lt (l : List UInt8) (c0 : Nat) (h : c0 ≤ 31) : vS l c0 1 ≤ 31 ∧ vS l c0 2 ≤ 2047 ∧ vS l c0 3 ≤ 131071 ∧ vS l c0 4 ≤ 8388607 := by
  have h2 : vS l c0 2 = vS l c0 1 * 64 + (l.getD 1 0).toNat % 64 := rfl
  have h3 : vS l c0 3 = vS l c0 2 * 64 + (l.getD 2 0).toNat % 64 := rfl
  have h4 : vS l c0 4 = vS l c0 3 * 64 + (l.getD 3 0).toNat % 64 := rfl
  have h1 : vS l c0 1 = c0 := rfl
  omega
theorem u8_and192 : ∀ x : Nat, x < 256 → bits .and .u8 (x : Int) 192 = ((x / 64 * 64 : Nat) : Int) := by decide +kernel

set_option maxRecDepth 100000 in
set_option maxHeartbeats 8000000 in
theorem refsize_multi (s : ByteArray) (N : Nat) (least c0 : Nat) (h0 : 0 < s.size) (hs : s.size ≤ 2000000) (hz : N ≤ s.size)
    (hc : N = 2 ∧ least = 128 ∧ c0 = s[0].toNat % 32 ∧ 194 ≤ s[0].toNat ∧ s[0].toNat ≤ 223 ∨ N = 3 ∧ least = 2048 ∧ c0 = s[0].toNat % 16 ∧ 224 ≤ s[0].toNat ∧ s[0].toNat ≤ 239 ∨ N = 4 ∧ least = 65536 ∧ c0 = s[0].toNat % 8 ∧ 240 ≤ s[0].toNat ∧ s[0].toNat ≤ 244)
    (r : Nat) (hbad : ∀ k, 1 ≤ k → k < N → ¬ (s.data.toList.getD k 0).toNat / 64 = 2 → r = 1)
    (hlow : vS s.data.toList c0 N < least ∨ 1114111 < vS s.data.toList c0 N ∨ 55296 ≤ vS s.data.toList c0 N ∧ vS s.data.toList c0 N ≤ 57343 → r = 1)
    (hgood : ConS s.data.toList N → ¬ (vS s.data.toList c0 N < least ∨ 1114111 < vS s.data.toList c0 N ∨ 55296 ≤ vS s.data.toList c0 N ∧ vS s.data.toList c0 N ≤ 57343) → r = N) (w : World) :
    Calls Try.prog 23 #[.string s] w fun e w' => e = .returned (.int .i64 (r : Nat)) ∧ w' = w := by
  have hcl : c0 ≤ 31 := by omega
  have hN : 2 ≤ N ∧ N ≤ 4 := by omega
  have HBad := hid hbad
  have HLow := hid hlow
  have HGood := hid hgood
  clear hbad hlow hgood
  rcases hc with ⟨e1, e2, e3, e4, e5⟩ | ⟨e1, e2, e3, e4, e5⟩ | ⟨e1, e2, e3, e4, e5⟩
  all_goals
    have E3 := hid e3
    have E1 := hid e1
    have E2 := hid e2
    clear e3
    go_enter Try.func23, Try.ntmps23
    go_wp2_with fail
    go_loop [6, 7] (fun c i => ∃ k : Nat, 1 ≤ k ∧ k ≤ N ∧ i = .int .i64 k ∧ c = .int .i32 ((vS s.data.toList c0 k : Nat) : Int) ∧ ConS s.data.toList k) (fun _ i => N - (intOf i).toNat)
  all_goals try (exact ⟨1, by omega, by omega, rfl, by rw [vS, E3.out]; rfl, fun j h1 h2 => by omega⟩)
  all_goals
    obtain ⟨k, hk1, hk, rfl, rfl, hg⟩ := hrel
    have HG := hid hg
    clear hg
    have hv := vS_lt s.data.toList c0 hcl
    by_cases hlt : k < N
    · have hks : k < s.size := by omega
      have hx := s[k].toNat_lt
      have hbk := hid (byte_at s k hks)
      have hst := hid (vS_step s.data.toList c0 k hk1)
      have hvk : vS s.data.toList c0 k ≤ 131071 := by
        have : k = 1 ∨ k = 2 ∨ k = 3 := by omega
        rcases this with rfl | rfl | rfl <;> omega
      generalize vS s.data.toList c0 k = V at hst hvk ⊢
      have ha := u8_and63 (x := (s[k].toNat : Int)) (by omega) (by omega)
      have hh := u8_and192 s[k].toNat hx
      have ho := i32_or6 (x := (V : Int) * 64) (y := (s[k].toNat : Int) % 64) (by omega) (by omega) (by omega) (by omega) (by omega)
      clear hv
      by_cases hq : s[k].toNat / 64 = 2
      · have hh2 : bits .and .u8 (s[k].toNat : Int) 192 = 128 := by rw [hh, hq]; rfl
        clear hh
        go_wp2_with fail
        go_round
        case rel =>
          refine ⟨k + 1, by omega, by omega, by go_num, ?_, ?_⟩
          · refine int_eq ?_
            rw [hst.out, hbk.out]
            omega
          · intro j h1 h2
            by_cases e : j = k
            · subst e; rw [hbk.out]; exact hq
            · exact HG.out j h1 (by omega)
        case measure => simp [intOf]; omega
      · have hr : r = 1 := HBad.out k hk1 hlt (by rw [hbk.out]; exact hq)
        have hne : (bits .and .u8 (s[k].toNat : Int) 192 == 128) = false := by rw [hh, beq_eq_false_iff_ne]; omega
        have Hr := hid hr
        clear hh hq hr
        go_wp2_with fail
        go_returns
        rw [Hr.out]
        exact ⟨rfl, rfl⟩
    · obtain rfl : k = N := by omega
      have hgd := HGood.out HG.out
      have hlw := HLow.out
      generalize vS s.data.toList c0 k = V at hgd hlw ⊢
      clear hv HGood HLow HBad HG hlt
      by_cases q1 : V < least
      · have Hr := hid (hlw (.inl q1))
        have q1' : V < least := q1
        rw [E2.out] at q1'
        clear hgd hlw q1
        go_wp2_with fail
        go_returns
        rw [Hr.out]
        exact ⟨rfl, rfl⟩
      · have q1' : ¬ V < least := q1
        rw [E2.out] at q1'
        by_cases q2 : 1114111 < V
        · have Hr := hid (hlw (.inr (.inl q2)))
          clear hgd hlw q1
          go_wp2_with fail
          go_returns
          rw [Hr.out]
          exact ⟨rfl, rfl⟩
        · by_cases q3 : 55296 ≤ V
          · by_cases q4 : V ≤ 57343
            · have Hr := hid (hlw (.inr (.inr ⟨q3, q4⟩)))
              clear hgd hlw q1
              go_wp2_with fail
              first | done | (go_returns; rw [Hr.out]; exact ⟨rfl, rfl⟩)
            · have Hr := hid (hgd (by omega))
              clear hgd hlw q1
              go_wp2_with fail
              go_returns
              rw [Hr.out, E1.out]
              exact ⟨rfl, rfl⟩
          · have Hr := hid (hgd (by omega))
            clear hgd hlw q1
            go_wp2_with fail
            first | done | (go_returns; rw [Hr.out, E1.out]; exact ⟨rfl, rfl⟩)

theorem wdN_1 (n b0 b1 b2 b3 : Nat) (h : b0 < 194 ∨ 244 < b0) (hb : b0 < 256) : (Lib.decodeN n b0 b1 b2 b3).2 = 1 := by
  unfold Lib.decodeN
  repeat' split
  all_goals simp only []
  all_goals omega
theorem wdN_2 (n b0 b1 b2 b3 : Nat) (h1 : 194 ≤ b0) (h2 : b0 ≤ 223) : (Lib.decodeN n b0 b1 b2 b3).2 = if 1 < n ∧ b1 / 64 = 2 then 2 else 1 := by
  unfold Lib.decodeN
  repeat' split
  all_goals simp only []
  all_goals omega
theorem wdN_3 (n b0 b1 b2 b3 : Nat) (h1 : 224 ≤ b0) (h2 : b0 ≤ 239) : (Lib.decodeN n b0 b1 b2 b3).2 =
    if (1 < n ∧ b1 / 64 = 2) ∧ (2 < n ∧ b2 / 64 = 2) ∧ ¬ (b0 % 16 * 4096 + b1 % 64 * 64 + b2 % 64 < 2048 ∨ 55296 ≤ b0 % 16 * 4096 + b1 % 64 * 64 + b2 % 64 ∧ b0 % 16 * 4096 + b1 % 64 * 64 + b2 % 64 ≤ 57343) then 3 else 1 := by
  unfold Lib.decodeN
  repeat' split
  all_goals simp only []
  all_goals omega
theorem wdN_4 (n b0 b1 b2 b3 : Nat) (h1 : 240 ≤ b0) (h2 : b0 ≤ 244) : (Lib.decodeN n b0 b1 b2 b3).2 =
    if (1 < n ∧ b1 / 64 = 2) ∧ (2 < n ∧ b2 / 64 = 2) ∧ (3 < n ∧ b3 / 64 = 2) ∧
      ¬ (b0 % 8 * 262144 + b1 % 64 * 4096 + b2 % 64 * 64 + b3 % 64 < 65536 ∨ 1114111 < b0 % 8 * 262144 + b1 % 64 * 4096 + b2 % 64 * 64 + b3 % 64) then 4 else 1 := by
  unfold Lib.decodeN
  repeat' split
  all_goals simp only []
  all_goals omega

set_option maxRecDepth 100000 in
set_option maxHeartbeats 4000000 in
theorem refsize_one (s : ByteArray) (h0 : 0 < s.size) (hs : s.size ≤ 2000000)
    (hc : (s[0].toNat < 194 ∨ 244 < s[0].toNat) ∨ (194 ≤ s[0].toNat ∧ s[0].toNat ≤ 223 ∧ s.size < 2) ∨ (224 ≤ s[0].toNat ∧ s[0].toNat ≤ 239 ∧ s.size < 3) ∨ (240 ≤ s[0].toNat ∧ s[0].toNat ≤ 244 ∧ s.size < 4)) (w : World) :
    Calls Try.prog 23 #[.string s] w fun e w' => e = .returned (.int .i64 1) ∧ w' = w := by
  have hx := s[0].toNat_lt
  rcases hc with (h | h) | ⟨h1, h2, h3⟩ | ⟨h1, h2, h3⟩ | ⟨h1, h2, h3⟩
  · have h4 : s[0].toNat < 224 := by omega
    have h5 : s[0].toNat < 240 := by omega
    go_enter Try.func23, Try.ntmps23
    go_wp2
    go_returns
    exact ⟨rfl, rfl⟩
  · have h4 : 239 < s[0].toNat := by omega
    have h5 : 223 < s[0].toNat := by omega
    have h6 : 240 ≤ s[0].toNat := by omega
    have h7 : 224 ≤ s[0].toNat := by omega
    have h8 : 194 ≤ s[0].toNat := by omega
    go_enter Try.func23, Try.ntmps23
    go_wp2
    go_returns
    exact ⟨rfl, rfl⟩
  · have h4 : s[0].toNat < 224 := by omega
    have h5 : s[0].toNat < 240 := by omega
    go_enter Try.func23, Try.ntmps23
    go_wp2
    go_returns
    exact ⟨rfl, rfl⟩
  · have h4 : s[0].toNat < 240 := by omega
    go_enter Try.func23, Try.ntmps23
    go_wp2
    go_returns
    exact ⟨rfl, rfl⟩
  · go_enter Try.func23, Try.ntmps23
    go_wp2
    go_returns
    exact ⟨rfl, rfl⟩

theorem refsize_any (s : ByteArray) (h0 : 0 < s.size) (hs : s.size ≤ 2000000) (w : World) :
    Calls Try.prog 23 #[.string s] w fun e w' => e = .returned (.int .i64 ((wd s.data.toList : Nat) : Int)) ∧ w' = w := by
  have hx := s[0].toNat_lt
  have hl : s.data.toList.length = s.size := by simp
  have hb0 : s.data.toList.getD 0 0 = s[0] := byte_at s 0 h0
  have hw : wd s.data.toList = (Lib.decodeN s.size s[0].toNat (s.data.toList.getD 1 0).toNat (s.data.toList.getD 2 0).toNat (s.data.toList.getD 3 0).toNat).2 := by rw [wd, hl, hb0]
  have v2 : ∀ c0, vS s.data.toList c0 2 = c0 * 64 + (s.data.toList.getD 1 0).toNat % 64 := fun _ => rfl
  have v3 : ∀ c0, vS s.data.toList c0 3 = (c0 * 64 + (s.data.toList.getD 1 0).toNat % 64) * 64 + (s.data.toList.getD 2 0).toNat % 64 := fun _ => rfl
  have v4 : ∀ c0, vS s.data.toList c0 4 = ((c0 * 64 + (s.data.toList.getD 1 0).toNat % 64) * 64 + (s.data.toList.getD 2 0).toNat % 64) * 64 + (s.data.toList.getD 3 0).toNat % 64 := fun _ => rfl
  by_cases c1 : s[0].toNat < 194 ∨ 244 < s[0].toNat
  · rw [hw, wdN_1 _ _ _ _ _ c1 hx]
    exact refsize_one s h0 hs (.inl c1) w
  · by_cases c2 : s[0].toNat ≤ 223
    · rw [wdN_2 _ _ _ _ _ (by omega) c2] at hw
      by_cases hz : 2 ≤ s.size
      · refine refsize_multi s 2 128 (s[0].toNat % 32) h0 hs hz (.inl ⟨rfl, rfl, rfl, by omega, c2⟩) _ ?_ ?_ ?_ w
        · intro k k1 k2 hk
          obtain rfl : k = 1 := by omega
          rw [hw, if_neg (fun h => hk h.2)]
        · intro h; rw [v2] at h; omega
        · intro hg _
          rw [hw, if_pos ⟨by omega, hg 1 (by decide) (by decide)⟩]
      · rw [hw, if_neg (fun h => by omega)]
        exact refsize_one s h0 hs (.inr (.inl ⟨by omega, c2, by omega⟩)) w
    · by_cases c3 : s[0].toNat ≤ 239
      · rw [wdN_3 _ _ _ _ _ (by omega) c3] at hw
        by_cases hz : 3 ≤ s.size
        · refine refsize_multi s 3 2048 (s[0].toNat % 16) h0 hs hz (.inr (.inl ⟨rfl, rfl, rfl, by omega, c3⟩)) _ ?_ ?_ ?_ w
          · intro k k1 k2 hk
            have : k = 1 ∨ k = 2 := by omega
            rcases this with rfl | rfl
            · rw [hw, if_neg (fun h => hk h.1.2)]
            · rw [hw, if_neg (fun h => hk h.2.1.2)]
          · intro h; rw [v3] at h; rw [hw, if_neg (fun h' => h'.2.2 (by omega))]
          · intro hg hn
            rw [v3] at hn
            rw [hw, if_pos ⟨⟨by omega, hg 1 (by decide) (by decide)⟩, ⟨by omega, hg 2 (by decide) (by decide)⟩, by omega⟩]
        · rw [hw, if_neg (fun h => by omega)]
          exact refsize_one s h0 hs (.inr (.inr (.inl ⟨by omega, c3, by omega⟩))) w
      · rw [wdN_4 _ _ _ _ _ (by omega) (by omega)] at hw
        by_cases hz : 4 ≤ s.size
        · refine refsize_multi s 4 65536 (s[0].toNat % 8) h0 hs hz (.inr (.inr ⟨rfl, rfl, rfl, by omega, by omega⟩)) _ ?_ ?_ ?_ w
          · intro k k1 k2 hk
            have : k = 1 ∨ k = 2 ∨ k = 3 := by omega
            rcases this with rfl | rfl | rfl
            · rw [hw, if_neg (fun h => hk h.1.2)]
            · rw [hw, if_neg (fun h => hk h.2.1.2)]
            · rw [hw, if_neg (fun h => hk h.2.2.1.2)]
          · intro h; rw [v4] at h; rw [hw, if_neg (fun h' => h'.2.2.2 (by omega))]
          · intro hg hn
            rw [v4] at hn
            rw [hw, if_pos ⟨⟨by omega, hg 1 (by decide) (by decide)⟩, ⟨by omega, hg 2 (by decide) (by decide)⟩, ⟨by omega, hg 3 (by decide) (by decide)⟩, by omega⟩]
        · rw [hw, if_neg (fun h => by omega)]
          exact refsize_one s h0 hs (.inr (.inr (.inr ⟨by omega, by omega, by omega⟩))) w
end Go.Proofs.Ythmfojkklianlaa
