/-
  The document's own answer for a text's characters: Chars.
-/
import Derived.Test.YthmfojkklianlaaChS
import Derived.OwnWalk
import Derived.Lib.Slices
import Derived.RangeFuncBox
namespace Go.Proofs.Ythmfojkklianlaa
open Go.RowKit

theorem str_info : (Try.prog.info? 9).map (fun i => (i.zero, i.size, i.bytes)) = some (some (.string ⟨#[]⟩), 1, 16) := by kernel_rfl
/-- Texts as values. -/
def strVals (ps : List (List UInt8)) : List Value := ps.map fun p => Value.string ⟨p.toArray⟩
theorem strVals_append (a b : List (List UInt8)) : strVals (a ++ b) = strVals a ++ strVals b := by simp [strVals]
theorem strVals_len (a : List (List UInt8)) : (strVals a).length = a.length := by simp [strVals]
theorem ext_mk (s : ByteArray) (i j : Nat) : s.extract i j = ⟨((s.data.toList.drop i).take (j - i)).toArray⟩ := ib_str_eq (by
  rw [ByteArray.data_extract, Array.toList_extract, List.extract_eq_take_drop])

set_option maxRecDepth 100000 in
set_option maxHeartbeats 8000000 in
theorem refchars_any (s : ByteArray) (w : World) (hs : s.size ≤ 1000000) :
    Calls Try.prog 14 #[.string s] w fun e w' => ∃ v, e = .returned v ∧ w'.ownsRow w.heap.size 9 1 v (charsL s.data.toList).length (strVals (charsL s.data.toList)) ∧ Below w.heap.size w w' := by
  obtain ⟨i0, hi, hz0, hz1, hz2⟩ := info_parts str_info
  have hl : s.data.toList.length = s.size := by simp
  have HZ := hid (fun (t : ByteArray) (h1 : 0 < t.size) (h2 : t.size ≤ 2000000) w' => refsize_any t h1 h2 w')
  go_enter Try.func14, Try.ntmps14
  go_wp2
  go_loopw [3, 4] (fun v i wr => ∃ (k : Nat) (pre : List (List UInt8)), k ≤ s.size ∧ i = .int .i64 k ∧ charsL s.data.toList = pre ++ charsL (s.data.toList.drop k) ∧ pre.length ≤ k ∧ wr.ownsRow w.heap.size 9 1 v pre.length (strVals pre) ∧ Below w.heap.size w wr) (fun _ i _ => s.size - (intOf i).toNat)
  case atStart => exact ⟨0, [], Nat.zero_le _, rfl, rfl, Nat.le_refl _, World.ownsRow_nil _ _ _ _, Below.refl _ _⟩
  case round =>
    obtain ⟨k, pre, hk, rfl, hx, hpl, hown, hb⟩ := hrel
    have HX := hid hx
    clear hx
    by_cases hlt : k < s.size
    · have hne : s.data.toList.drop k ≠ [] := by
        intro e
        have := congrArg List.length e
        simp at this; omega
      have hw := wd_pos hne
      have hle : wd (s.data.toList.drop k) ≤ s.size - k := by have := hw.2.1; simpa using this
      have hE1 : s.extract k s.size = ⟨(s.data.toList.drop k).toArray⟩ := by
        rw [ext_mk, List.take_of_length_le (by simp)]
      have hC := hid (charsL_cons hne)
      have HS := hid (fun w' => HZ.out (s.extract k s.size) (by simp only [ByteArray.size_extract]; omega) (by simp only [ByteArray.size_extract]; omega) w')
      rw [show (s.extract k s.size).data.toList = s.data.toList.drop k by rw [hE1]] at HS
      have hE2 := hid (ext_mk s k (k + wd (s.data.toList.drop k)))
      have hdd := hid (show (s.data.toList.drop k).drop (wd (s.data.toList.drop k)) = s.data.toList.drop (k + wd (s.data.toList.drop k)) by rw [List.drop_drop])
      rw [hdd.out] at hC
      rw [Nat.add_sub_cancel_left] at hE2
      obtain ⟨hw1, -, hw4⟩ := hw
      clear hdd hE1 hne
      generalize (s.data.toList.drop k).take (wd (s.data.toList.drop k)) = pc at hC hE2
      generalize wd (s.data.toList.drop k) = n at *
      go_wp2_with (first
        | (go_at_call 23; refine (HS.out _).mono ?_; rintro e w' ⟨rfl, hw'⟩; obtain rfl := hw'.symm)
        | (at_builtin; refine wpList_append_own _ rfl _ _ 29 rfl w.heap.size 9 i0 (.string ⟨#[]⟩) 1 16 Try.underlying29 hi hz0 hz1 hz2 rfl (by decide) _ _ _ rfl (hown.alloc _) ⟨wr.heap.size, 0, none⟩ 1 1 [.string ⟨pc.toArray⟩] rfl rfl ?c1 ?c2 ?c3 ?c4 ?c5 ?_))
      case c1 =>
        intro j u hj
        match j, hj with
        | 0, hj => simp at hj; subst hj; simp [Addr.add, hE2.out]
      case c2 => intro u hu; simp at hu; subst hu; rfl
      case c3 => unfold maxLen; omega
      case c4 => omega
      case c5 => have := hb.size; simp; omega
      intro v' w1 hown' hgrow _
      have hb' : Below w.heap.size w w1 := (hb.alloc hb.size _).grown hgrow (by have := hb.size; simp; omega) (fun j hj => (hown.lt j hj).1)
      clear hgrow hown hb
      have HO' := hid hown'
      clear hown'
      go_wp2
      go_roundw
      case rel =>
        refine ⟨k + n, pre ++ [pc], by omega, by go_num, ?_, by simp; omega, ?_, hb'⟩
        · rw [HX.out, hC.out, List.append_assoc]; rfl
        · rw [List.length_append, strVals_append]; exact HO'.out
      case measure => simp [intOf]; omega
    · obtain rfl : k = s.size := by omega
      have hx := HX.out
      rw [List.drop_of_length_le (by omega), charsL_nil, List.append_nil] at hx
      go_wp2
      go_returns
      rw [hx]
      exact ⟨_, rfl, hown, hb⟩
end Go.Proofs.Ythmfojkklianlaa
