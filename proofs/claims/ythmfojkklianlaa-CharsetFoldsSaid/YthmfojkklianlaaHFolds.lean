/-
  The walk of CharsetFolds.
-/
import Derived.Test.YthmfojkklianlaaChW
namespace Go.Proofs.Ythmfojkklianlaa
open Go.RowKit

set_option maxHeartbeats 1000000 in
theorem hFolds_long (s : ByteArray) (W L : Int) (w : World) (hs : s.size ≤ 9223372036854775807) (hl : 2000 < s.size) :
    Calls Try.prog 4 #[.string s, .int .i64 W, .int .i64 L] w fun e w' => e = .returned (.bool true) ∧ Below w.heap.size w w' := by
  go_enter Try.func4, Try.ntmps4
  go_wp2_with (go_at_call 6; with_reducible refine (chwakes_any _).mono ?_; rintro e w1 ⟨rfl, h1⟩)
  go_returns
  exact ⟨rfl, h1⟩

set_option maxHeartbeats 2000000 in
theorem hFolds_bad (s : ByteArray) (W L : Int) (w : World) (hs : s.size ≤ 2000) (h : W < 1 ∨ 1 ≤ W ∧ L < 1) :
    Calls Try.prog 4 #[.string s, .int .i64 W, .int .i64 L] w fun e w' => e = .returned (.bool true) ∧ Below w.heap.size w w' := by
  have F := hid (fun w' => chfold_bad s (by omega) W L h w')
  rcases h with h | ⟨h, h'⟩
  all_goals
    go_enter Try.func4, Try.ntmps4
    go_wp2_with fail
    refine (F.out _).mono ?_
    rintro e w1 ⟨a, cap, rfl, h1⟩
    go_wp2_with fail
    refine (chwakes_any _).mono ?_
    rintro e w2 ⟨rfl, h2⟩
    go_wp2
    go_returns
    exact ⟨rfl, h1.trans (h2.mono h1.size)⟩

theorem flatten_snoc (ps : List (List UInt8)) (k : Nat) (h : k < ps.length) : (ps.take (k + 1)).flatten = (ps.take k).flatten ++ ps[k] := by
  rw [List.take_succ_eq_append_getElem h, List.flatten_append]
  simp
theorem flatten_le (ps : List (List UInt8)) (k : Nat) : (ps.take k).flatten.length ≤ ps.flatten.length := by
  conv => rhs; rw [← List.take_append_drop k ps]
  rw [List.flatten_append, List.length_append]
  omega
theorem str_cat (a b : List UInt8) : (⟨a.toArray⟩ ++ ⟨b.toArray⟩ : ByteArray) = ⟨(a ++ b).toArray⟩ := ib_str_eq (by simp)

set_option maxRecDepth 100000 in
set_option maxHeartbeats 8000000 in
theorem hFolds_good (s : ByteArray) (W L : Nat) (w : World) (hs : s.size ≤ 2000) (hW : 1 ≤ W) (hW2 : W ≤ 9223372036854775807) (hL : 1 ≤ L) (hL2 : L ≤ 9223372036854775807) :
    Calls Try.prog 4 #[.string s, .int .i64 W, .int .i64 L] w fun e w' => e = .returned (.bool true) ∧ Below w.heap.size w w' := by
  have F := hid (fun w' => chfold_any s (by omega) W L hW hW2 hL hL2 w')
  have R := hid (fun w' => reffold_any s W L hW hW2 hL hL2 w' hs)
  have hz := foldV_size s.data.toList W L
  have hl : s.data.toList.length = s.size := by simp
  generalize foldV s.data.toList W L = ps at *
  generalize keptV s.data.toList W L = kv at *
  have J := hid (fun v w' h => chjoin_any v ps (by omega) (by omega) w' h)
  go_enter Try.func4, Try.ntmps4
  go_wp2_with fail
  refine (F.out _).mono ?_
  rintro e w1 ⟨v, rfl, r1, h1⟩
  go_wp2_with fail
  refine (R.out _).mono ?_
  rintro e w2 ⟨v2, rfl, o2, h2⟩
  have b2 := h1.trans (h2.mono h1.size)
  have r2 := r1.below h2 (Nat.le_refl _)
  have q2 := RowS.of o2
  have HR2 := hid r2
  have HQ2 := hid q2
  obtain ⟨a, cap, rfl, -⟩ := r2
  obtain ⟨a', cap', rfl, -⟩ := q2
  clear h1 h2 r1 o2 F R
  go_wp2_with fail
  go_loopw [12, 13] (fun al i wr => ∃ k : Nat, k ≤ ps.length ∧ i = .int .i64 k ∧ al = .string ⟨(ps.take k).flatten.toArray⟩ ∧ Below w.heap.size w wr ∧ RowS wr (.slice a ps.length cap) ps ∧ RowS wr (.slice a' ps.length cap') ps) (fun _ i _ => ps.length - (intOf i).toNat)
  case atStart => exact ⟨0, Nat.zero_le _, rfl, rfl, b2, HR2.out, HQ2.out⟩
  case round =>
    obtain ⟨k, hk, rfl, rfl, hb, hr, hq⟩ := hrel
    by_cases hlt : k < ps.length
    · have HRr := hid hr
      have HQr := hid hq
      obtain ⟨a1, cap1, e1, -, hc1⟩ := hr
      cases e1
      obtain ⟨g, rfl, hg, hcell⟩ := hc1 k hlt
      obtain ⟨a2, cap2, e2, -, hc2⟩ := hq
      cases e2
      obtain ⟨g', rfl, hg', hcell'⟩ := hc2 k hlt
      rw [strVals_at hlt] at hcell hcell'
      have hfl := hid (flatten_snoc ps k hlt)
      have hfz := flatten_le ps k
      have hfz2 := flatten_le ps (k + 1)
      rw [hfl.out, List.length_append] at hfz2
      have hcat := str_cat (ps.take k).flatten ps[k]
      have hs1 := mk_size (ps.take k).flatten
      have hs2 := mk_size ps[k]
      generalize (ps.take k).flatten = o at *
      generalize ps[k] = p at *
      obtain ⟨X, hX⟩ : ∃ X : ByteArray, X = ⟨(o ++ p).toArray⟩ := ⟨_, rfl⟩
      rw [← hX] at hcat
      have HX := hid hX
      clear hX hc1 hc2
      generalize (⟨o.toArray⟩ : ByteArray) = O at *
      generalize (⟨p.toArray⟩ : ByteArray) = Pc at *
      have y1 : O.size ≤ 4000 := by omega
      have y2 : Pc.size ≤ 4000 := by omega
      clear hs1 hs2
      go_wp2_with fail
      go_quiet (fail)
      go_wp2_with fail
      go_roundw
      case rel =>
        refine ⟨k + 1, by omega, by go_num, by rw [HX.out, hfl.out], ib_below_drewN hb nq, ?_, ?_⟩
        · obtain ⟨a, c, e, h⟩ := HRr.out
          exact ⟨a, c, e, h⟩
        · obtain ⟨a, c, e, h⟩ := HQr.out
          exact ⟨a, c, e, h⟩
      case measure => simp [intOf]; omega
    · obtain rfl : k = ps.length := by omega
      have J2 := hid (J.out _ _ hr)
      clear hr hq HR2 HQ2 J
      rw [List.take_length]
      generalize (⟨ps.flatten.toArray⟩ : ByteArray) = X at *
      go_wp2_with fail
      refine J2.out.mono ?_
      rintro e w3 ⟨rfl, h3⟩
      have b3 := hb.trans (h3.mono hb.size)
      go_wp2_with fail
      refine (chwakes_any _).mono ?_
      rintro e w4 ⟨rfl, h4⟩
      go_wp2
      go_returns
      exact ⟨rfl, b3.trans (h4.mono b3.size)⟩

theorem hFolds_any (s : ByteArray) (hs : s.size ≤ 9223372036854775807) (W : Int) (hW : (Lit.int .i64 W).wf = true) (L : Int) (hL : (Lit.int .i64 L).wf = true) (w : World) :
    Calls Try.prog 4 #[.string s, .int .i64 W, .int .i64 L] w fun e w' => e = .returned (.bool true) ∧ Below w.heap.size w w' := by
  have hb : ∀ x : Int, (Lit.int .i64 x).wf = true → x ≤ 9223372036854775807 := fun x h => by
    have e2 : IntKind.i64.max = 9223372036854775807 := by decide
    rw [Lit.wf, e2, Bool.and_eq_true, decide_eq_true_eq, decide_eq_true_eq] at h
    exact h.2
  have hW2 := hb W hW
  have hL2 := hb L hL
  by_cases h : s.size ≤ 2000
  · by_cases hw : W < 1
    · exact hFolds_bad s W L w h (.inl hw)
    · by_cases hl : L < 1
      · exact hFolds_bad s W L w h (.inr ⟨by omega, hl⟩)
      · obtain ⟨W', rfl⟩ : ∃ n : Nat, W = (n : Int) := ⟨W.toNat, by omega⟩
        obtain ⟨L', rfl⟩ : ∃ n : Nat, L = (n : Int) := ⟨L.toNat, by omega⟩
        exact hFolds_good s W' L' w h (by omega) (by omega) (by omega) (by omega)
  · exact hFolds_long s W L w hs (by omega)
end Go.Proofs.Ythmfojkklianlaa
