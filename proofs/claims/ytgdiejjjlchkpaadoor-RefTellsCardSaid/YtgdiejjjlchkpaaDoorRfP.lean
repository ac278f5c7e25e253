/-
  The program's contracts for references: Check, CheckId, CheckUETR, Make.
-/
import Derived.Test.YtgdiejjjlchkpaaDoorRfC
import Derived.Test.YtgdiejjjlchkpaaDoorRfB
import Derived.Test.YtgdiejjjlchkpaaDoorRfM
import Derived.Test.YtgdiejjjlchkpaaDoorRfR
import Derived.Test.YtgdiejjjlchkpaaDoorChP
namespace Go.Proofs.YtgdiejjjlchkpaaDoor
open Go.RowKit Go.Shelf

/-- What the library's own variables hold: the table for the last noughts, and some number of bytes. -/
def RTab (w : World) : Prop := Tab64 w ∧ ∃ m, w.cell? ⟨0, 0, none⟩ = some (.int .i64 m)
theorem RTab.below {w w' : World} (h : RTab w) (hb : Below w.heap.size w w') : RTab w' := by
  obtain ⟨h1, m, h2⟩ := h
  have hl : 0 < w.heap.size := by
    simp only [World.cell?] at h2
    split at h2
    · rename_i o
      exact (Array.getElem?_eq_some_iff.1 (by assumption)).1
    · cases h2
  exact ⟨h1.below hb, m, (hb.cell (p := ⟨0, 0, none⟩) hl).trans h2⟩

set_option maxHeartbeats 1000000 in
theorem slashed_any (s : ByteArray) (hs : s.size ≤ 1000) (w : World) (hT : RTab w) :
    Calls Tryd.prog 18 #[.string s] w fun e w' => e = .returned (.bool (!(Lib.contains (slL s.data.toList) [47, 47]))) ∧ w' = w := by
  obtain ⟨_, m, hm⟩ := hT
  have hC := Tryd.strings_Contains (⟨#[47]⟩ ++ s ++ ⟨#[47]⟩) ⟨#[47, 47]⟩ m w (by simp only [ByteArray.size_append]; show 1 + s.size + 1 < _; omega) hm
  have e : (⟨#[47]⟩ ++ s ++ ⟨#[47]⟩ : ByteArray).data.toList = slL s.data.toList := by simp [slL]
  rw [e] at hC
  have HC := hid hC
  have z1 : (⟨#[47]⟩ : ByteArray).size = 1 := rfl
  have z2 : (⟨#[47]⟩ ++ s : ByteArray).size = 1 + s.size := by rw [ByteArray.size_append, z1]
  clear hC hm e
  go_enter Tryd.func18, Tryd.ntmps18
  go_wp2_with fail
  refine HC.out.mono ?_
  rintro e w1 ⟨rfl, hw⟩
  obtain rfl := hw.symm
  go_wp2
  go_returns
  exact ⟨rfl, rfl⟩

theorem inV_X : inV 88 = inX := by funext c; simp [inV]
theorem tw_len (p : UInt8 → Bool) : ∀ l : List UInt8, (l.takeWhile p).length = l.length ↔ l.all p = true
  | [] => by simp
  | x :: l => by
    cases h : p x
    · rw [List.takeWhile_cons_of_neg (by simp [h]), List.all_cons, h]; simp
    · rw [List.takeWhile_cons_of_pos h, List.all_cons, h, Bool.true_and, ← tw_len p l]; simp
theorem chk_X (l : List UInt8) : (chkV 88 l).2 = if l.all inX then 0 else 15 := by
  have e : firstNo 88 l = l.length ↔ l.all inX = true := by rw [firstNo, inV_X]; exact tw_len inX l
  rw [chkV, if_pos (.inl rfl)]
  dsimp only
  by_cases h : l.all inX = true
  · rw [if_pos (e.2 h), if_pos h]
  · rw [if_neg (fun h2 => h (e.1 h2)), if_neg h]

set_option maxHeartbeats 2000000 in
theorem checkup_any (m : Nat) (s : ByteArray) (hs : s.size ≤ 1000) (w : World) (hT : RTab w) :
    Calls Tryd.prog 13 #[.int .i64 (m : Int), .string s] w fun e w' => e = .returned (.int .i64 (errR (rfV s.data.toList m))) ∧ Below w.heap.size w w' := by
  have hl : s.data.toList.length = s.size := by simp
  have HS := hid (slashed_any s hs w hT)
  have HC := hid (fun w' => chcheck_any 88 s (by omega) (by omega) w')
  rw [show ((88 : Nat) : Int) = 88 from rfl, chk_X] at HC
  generalize (((chkV 88 s.data.toList).1 : Nat) : Int) = k at HC
  rw [rf_is, hl]
  clear hT hl
  by_cases h : m < s.size
  · have hg : (s.size : Int) > (m : Int) := by omega
    rw [decide_eq_false (by omega : ¬ s.size ≤ m), Bool.false_and]
    clear h HS HC
    go_enter Tryd.func13, Tryd.ntmps13
    go_wp2
    go_returns
    exact ⟨rfl, Below.refl _ _⟩
  · have hg : ¬ (s.size : Int) > (m : Int) := by omega
    rw [decide_eq_true (by omega : s.size ≤ m), Bool.true_and]
    generalize (!(Lib.contains (slL s.data.toList) [47, 47])) = b at HS ⊢
    generalize s.data.toList.all inX = c at HC ⊢
    cases b
    · clear h HC
      go_enter Tryd.func13, Tryd.ntmps13
      go_wp2_with fail
      refine HS.out.mono ?_
      rintro e w1 ⟨rfl, hw⟩
      obtain rfl := hw.symm
      go_wp2
      go_returns
      exact ⟨rfl, Below.refl _ _⟩
    · rw [Bool.true_and]
      clear h
      cases c
      · rw [show (if false = true then (0 : Int) else 15) = 15 from rfl] at HC
        go_enter Tryd.func13, Tryd.ntmps13
        go_wp2_with fail
        refine HS.out.mono ?_
        rintro e w1 ⟨rfl, hw⟩
        obtain rfl := hw.symm
        go_wp2_with fail
        refine (HC.out _).mono ?_
        rintro e w1 ⟨rfl, hb⟩
        go_wp2
        go_returns
        exact ⟨rfl, hb⟩
      · rw [show (if true = true then (0 : Int) else 15) = 0 from rfl] at HC
        go_enter Tryd.func13, Tryd.ntmps13
        go_wp2_with fail
        refine HS.out.mono ?_
        rintro e w1 ⟨rfl, hw⟩
        obtain rfl := hw.symm
        go_wp2_with fail
        refine (HC.out _).mono ?_
        rintro e w1 ⟨rfl, hb⟩
        go_wp2
        go_returns
        exact ⟨rfl, hb⟩

theorem refcheck_any (s : ByteArray) (hs : s.size ≤ 1000) (w : World) (hT : RTab w) :
    Calls Tryd.prog 6 #[.string s] w fun e w' => e = .returned (.int .i64 (errR (rfV s.data.toList 16))) ∧ Below w.heap.size w w' := by
  have HC := hid (checkup_any 16 s hs w hT)
  rw [show ((16 : Nat) : Int) = 16 from rfl] at HC
  clear hT
  go_enter Tryd.func6, Tryd.ntmps6
  go_wp2_with fail
  refine HC.out.mono ?_
  rintro e w1 ⟨rfl, hb⟩
  go_wp2
  go_returns
  exact ⟨rfl, hb⟩
theorem refid_any (s : ByteArray) (hs : s.size ≤ 1000) (w : World) (hT : RTab w) :
    Calls Tryd.prog 9 #[.string s] w fun e w' => e = .returned (.int .i64 (errR (rfV s.data.toList 35))) ∧ Below w.heap.size w w' := by
  have HC := hid (checkup_any 35 s hs w hT)
  rw [show ((35 : Nat) : Int) = 35 from rfl] at HC
  clear hT
  go_enter Tryd.func9, Tryd.ntmps9
  go_wp2_with fail
  refine HC.out.mono ?_
  rintro e w1 ⟨rfl, hb⟩
  go_wp2
  go_returns
  exact ⟨rfl, hb⟩

set_option maxHeartbeats 2000000 in
theorem refuetr_any (s : ByteArray) (_hs : s.size ≤ 1000) (w : World) :
    Calls Tryd.prog 10 #[.string s] w fun e w' => e = .returned (.int .i64 (errR (utV s.data.toList))) ∧ Below w.heap.size w w' := by
  have hl : s.data.toList.length = s.size := by simp
  rw [utV, hl]
  by_cases h : s.size = 36
  · rw [decide_eq_true h, Bool.true_and]
    have z36 : ((s.size : Int) != 36) = false := by rw [h]; rfl
    have HP := hid (fun w' => places_any w')
    clear hl
    have hle : s.size ≤ 36 := by omega
    clear h
    go_enter Tryd.func10, Tryd.ntmps10
    go_wp2_with fail
    refine (HP.out _).mono ?_
    rintro e w1 ⟨B, M, rfl, hb, hB, hc, hy⟩
    go_wp2
    go_loopw [11] (fun i wr => ∃ k : Nat, k ≤ s.size ∧ i = .int .i64 k ∧ Hid (utTo s.data.toList k = true) ∧ Below w.heap.size w wr ∧ Below w1.heap.size w1 wr) (fun i _ => s.size - (intOf i).toNat)
    case atStart => exact ⟨0, Nat.zero_le _, rfl, hid rfl, hb, Below.refl _ _⟩
    case round =>
      obtain ⟨k, hk, rfl, HU, hb1, hb2⟩ := hrel
      by_cases hlt : k < s.size
      · have HN := hid (show utTo s.data.toList (k + 1) = utAt k s[k] by rw [utTo_succ, HU.out, byte_at s k hlt]; rfl)
        have HPl := hid (place_any k (by omega) s[k] B M wr ((hb2.cell (p := ⟨B, 0, none⟩) hB).trans hc) (hy.below hb2))
        have HM := hid (utTo_mono s.data.toList (s.size - (k + 1)) (k + 1))
        have HB1 := hid hb1
        have HB2 := hid hb2
        clear hb1 hb2 hb hc hy
        cases hu : utAt k s[k]
        · rw [hu] at HPl HN
          have HF := hid (HM.out HN.out)
          go_wp2_with fail
          refine HPl.out.mono ?_
          rintro e w2 ⟨rfl, hb3⟩
          go_wp2
          go_returns
          rw [show s.size - (k + 1) = s.size - (k + 1) from rfl, show k + 1 + (s.size - (k + 1)) = s.size by omega] at HF
          exact ⟨by rw [HF.out]; rfl, HB1.out.trans (hb3.mono HB1.out.size)⟩
        · rw [hu] at HPl HN
          go_wp2_with fail
          refine HPl.out.mono ?_
          rintro e w2 ⟨rfl, hb3⟩
          have HB3 := hid hb3
          clear hb3
          go_wp2
          go_roundw
          case rel => exact ⟨k + 1, by omega, by go_num, hid HN.out, HB1.out.trans (HB3.out.mono HB1.out.size), HB2.out.trans (HB3.out.mono HB2.out.size)⟩
          case measure => simp [intOf]; omega
      · obtain rfl : k = s.size := by omega
        clear hc hy hb2
        go_wp2
        go_returns
        exact ⟨by rw [HU.out]; rfl, hb1⟩
  · rw [decide_eq_false h, Bool.false_and]
    have z36 : ((s.size : Int) != 36) = true := by rw [bne_iff_ne]; omega
    clear h hl
    go_enter Tryd.func10, Tryd.ntmps10
    go_wp2
    go_returns
    exact ⟨rfl, Below.refl _ _⟩
end Go.Proofs.YtgdiejjjlchkpaaDoor
