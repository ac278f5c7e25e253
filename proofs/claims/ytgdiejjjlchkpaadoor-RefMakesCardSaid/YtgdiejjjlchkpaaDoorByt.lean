/-
  Bytes of texts: letters and digits, the first k bytes, equal texts.
-/
import Derived.Test.YtgdiejjjlchkpaaDoorIbN
import Derived.Test.YtgdiejjjlchkpaaDoorDecA
import Derived.Deep.QuietTactic
import Derived.BigQuiet
import Derived.Handy
import Derived.Lib.Walk
import Derived.Lib.Strings
import Derived.BigCall
import Derived.BigGuard
import Derived.Laws.Strings3
namespace Go.Proofs.YtgdiejjjlchkpaaDoor
open Go.RowKit

theorem ib_below_drewN {B : Nat} {a w : World} (h : Below B a w) (n : Nat) : Below B a (w.drewN n) := h.trans ⟨rfl, rfl, rfl, Nat.le_refl _, fun _ _ => rfl⟩
theorem ib_str_eq {a b : ByteArray} (h : a.data.toList = b.data.toList) : a = b := by
  cases a; cases b
  exact congrArg ByteArray.mk (Array.toList_inj.1 h)
theorem toList_yes {a b : ByteArray} (h : a = b) : (a.toList == b.toList) = true := by rw [h]; exact beq_self_eq_true _
theorem toList_no {a b : ByteArray} (h : ¬ a = b) : (a.toList == b.toList) = false := by
  rw [beq_eq_false_iff_ne, ByteArray.toList_eq, ByteArray.toList_eq]
  exact fun e => h (ib_str_eq e)
theorem wrap_id (n : Int) (h : -9223372036854775808 ≤ n) (h' : n ≤ 9223372036854775807) : IntKind.i64.wrap n = n := by
  rw [IntKind.wrap_i64]
  omega
theorem byte_at (s : ByteArray) (k : Nat) (h : k < s.size) : s.data.toList.getD k 0 = s[k] := by
  rw [List.getD_eq_getElem?_getD, List.getElem?_eq_getElem (by simpa using h)]
  rfl
theorem take_snoc (T : ByteArray) (k : Nat) (h : k < T.size) : T.data.toList.take (k + 1) = T.data.toList.take k ++ [T[k]] := by
  have h' : k < T.data.toList.length := by simpa using h
  rw [List.take_succ_eq_append_getElem h']
  rfl
theorem take_all (T : ByteArray) : T.data.toList.take T.size = T.data.toList := List.take_of_length_le (by simp)
theorem ok_dg {c : UInt8} (h1 : 48 ≤ c.toNat) (h2 : c.toNat ≤ 57) : ibOk c = true ∧ ibVal c = [c.toNat - 48] := by
  simp [ibOk, ibVal, ibDg, h1, h2]
theorem ok_lt {c : UInt8} (h1 : 65 ≤ c.toNat) (h2 : c.toNat ≤ 90) : ibOk c = true ∧ ibVal c = [(c.toNat - 55) / 10, (c.toNat - 55) % 10] := by
  have : ¬ c.toNat ≤ 57 := by omega
  simp [ibOk, ibVal, ibDg, ibLt, h1, h2, this]
theorem ok_bad {c : UInt8} (h : c.toNat < 48 ∨ 57 < c.toNat ∧ c.toNat < 65 ∨ 90 < c.toNat) : ibOk c = false := by
  simp only [ibOk, ibDg, ibLt, Bool.or_eq_false_iff, Bool.and_eq_false_iff, decide_eq_false_iff_not]
  omega
theorem ok_cases {c : UInt8} (h : ibOk c = true) : (48 ≤ c.toNat ∧ c.toNat ≤ 57) ∨ (65 ≤ c.toNat ∧ c.toNat ≤ 90) := by
  simp only [ibOk, ibDg, ibLt, Bool.or_eq_true, Bool.and_eq_true, decide_eq_true_eq] at h
  exact h
theorem all_bad {T : ByteArray} {k : Nat} (h : k < T.size) (hb : ibOk T[k] = false) : T.data.toList.all ibOk = false := by
  rw [List.all_eq_false]
  exact ⟨T[k], by rw [ByteArray.getElem_eq_getElem_data]; exact Array.mem_toList_iff.2 (Array.getElem_mem _), by simp [hb]⟩
theorem all_at {T : ByteArray} {k : Nat} (h : k < T.size) (ha : T.data.toList.all ibOk = true) : ibOk T[k] = true := by
  rw [List.all_eq_true] at ha
  exact ha _ (by rw [ByteArray.getElem_eq_getElem_data]; exact Array.mem_toList_iff.2 (Array.getElem_mem _))
/-- A byte is a letter, a digit, or neither. -/
theorem ib_three (c : UInt8) : ((decide (65 ≤ c.toNat) && decide (c.toNat ≤ 90)) = true ∧ ibOk c = true ∧ 65 ≤ c.toNat ∧ c.toNat ≤ 90) ∨
    ((decide (65 ≤ c.toNat) && decide (c.toNat ≤ 90)) = false ∧ (decide (48 ≤ c.toNat) && decide (c.toNat ≤ 57)) = true ∧ ibOk c = true ∧ 48 ≤ c.toNat ∧ c.toNat ≤ 57) ∨
    ((decide (65 ≤ c.toNat) && decide (c.toNat ≤ 90)) = false ∧ (decide (48 ≤ c.toNat) && decide (c.toNat ≤ 57)) = false ∧ ibOk c = false) := by
  simp only [ibOk, ibDg, ibLt]
  by_cases h1 : 65 ≤ c.toNat
  · by_cases h2 : c.toNat ≤ 90
    · exact .inl ⟨by simp [h1, h2], by simp [h1, h2], h1, h2⟩
    · have : ¬ c.toNat ≤ 57 := by omega
      exact .inr (.inr ⟨by simp [h2], by simp [this], by simp [h2, this]⟩)
  · by_cases h3 : 48 ≤ c.toNat
    · by_cases h4 : c.toNat ≤ 57
      · exact .inr (.inl ⟨by simp [h1], by simp [h3, h4], by simp [h3, h4], h3, h4⟩)
      · exact .inr (.inr ⟨by simp [h1], by simp [h4], by simp [h1, h4]⟩)
    · exact .inr (.inr ⟨by simp [h1], by simp [h3], by simp [h1, h3]⟩)
theorem ext_lst (s : ByteArray) (i j : Nat) : (s.extract i j).data.toList = (s.data.toList.take j).drop i := by
  rw [ByteArray.data_extract, Array.toList_extract, List.extract_eq_take_drop, List.drop_take]
theorem u8_is {c d : UInt8} (h : c = d) : ((c.toNat : Int) == (d.toNat : Int)) = true := by rw [h]; exact beq_self_eq_true _
theorem u8_isnt {c d : UInt8} (h : ¬ c = d) : ((c.toNat : Int) == (d.toNat : Int)) = false := by
  rw [beq_eq_false_iff_ne]; intro e; exact h (UInt8.toNat_inj.1 (by omega))
theorem u8_dec (c d : UInt8) : decide (c = d) = ((c.toNat : Int) == (d.toNat : Int)) := by
  by_cases h : c = d
  · rw [decide_eq_true h, u8_is h]
  · rw [decide_eq_false h, u8_isnt h]
end Go.Proofs.YtgdiejjjlchkpaaDoor
