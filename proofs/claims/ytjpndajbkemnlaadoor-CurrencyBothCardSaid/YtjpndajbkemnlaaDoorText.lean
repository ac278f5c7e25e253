/-
  The texts of package decimal: strings.Cut at one byte, join, read, ParseMT, ParseXML.
-/
import Derived.Test.YtjpndajbkemnlaaDoorDecB
import Derived.Test.YtjpndajbkemnlaaDoorDig2
import Derived.Test.YtjpndajbkemnlaaDoorShelf
namespace Go.Proofs.YtjpndajbkemnlaaDoor
open Go.RowKit Go.Shelf

set_option maxHeartbeats 400000 in
theorem cut_none (s : ByteArray) (c : UInt8) (h : Lib.indexByte s.data.toList c = -1) (w : World) :
    Calls Tryd.prog 14 #[.string s, .string ⟨#[c]⟩] w fun e w' => e = .returned (.tuple #[.string s, .string ⟨#[]⟩, .bool false]) ∧ Below w.heap.size w w' := by
  have H := hid h
  clear h
  go_enter Tryd.func14, Tryd.ntmps14
  go_wp2_with (first | (go_at_call 34; with_reducible refine (Tryd.stringslite_Index_one _ _ _).mono ?_; rintro e w' ⟨rfl, rfl⟩; rw [H.out]) | go_in)
  go_returns
  exact ⟨rfl, Below.refl _ _⟩

set_option maxHeartbeats 400000 in
theorem cut_some (s : ByteArray) (c : UInt8) (o : Nat) (h : Lib.indexByte s.data.toList c = o) (ho : o < s.size) (hs : s.size ≤ 9223372036854775807) (w : World) :
    Calls Tryd.prog 14 #[.string s, .string ⟨#[c]⟩] w fun e w' => e = .returned (.tuple #[.string (s.extract 0 o), .string (s.extract (o + 1) s.size), .bool true]) ∧ Below w.heap.size w w' := by
  have H := hid h
  clear h
  go_enter Tryd.func14, Tryd.ntmps14
  go_wp2_with (first | (go_at_call 34; with_reducible refine (Tryd.stringslite_Index_one _ _ _).mono ?_; rintro e w' ⟨rfl, rfl⟩; rw [H.out]) | go_in)
  go_quiet (fail)
  go_wp2
  go_returns
  exact ⟨rfl, below_drewN (Below.refl _ _) _⟩

theorem ba_eq {a b : ByteArray} (h : a.data.toList = b.data.toList) : a = b := by
  cases a; cases b
  exact congrArg ByteArray.mk (Array.toList_inj.1 h)
theorem ba_toList (l : List UInt8) : (⟨l.toArray⟩ : ByteArray).data.toList = l := by simp

theorem join_list (bk c : Nat) (xs : List ByteArray) (w : World) (hcells : ∀ (j : Nat) x, xs[j]? = some x → w.cell? ⟨bk, 0 + j, none⟩ = some (.string x)) (hbk : bk < w.heap.size) (hN : xs.length ≤ 140737488355328) (hcap : xs.length ≤ c)
    (hlen : (Lib.join (xs.map (·.data.toList)) []).length ≤ 140737488355328) :
    Calls Tryd.prog 27 #[.slice (some ⟨bk, 0, none⟩) xs.length c] w fun e w' => e = .returned (.string ⟨(Lib.join (xs.map (·.data.toList)) []).toArray⟩) ∧ Below w.heap.size w w' := by
  go_enter Tryd.func27, Tryd.ntmps27
  go_wp2_with (go_at_call 36; with_reducible refine (Tryd.strings_Join bk 0 c xs ⟨#[]⟩ _ hcells hbk hN hcap hlen).mono ?_; rintro e w' ⟨rfl, hb⟩)
  go_returns
  exact ⟨rfl, by assumption⟩

/-- Two texts, one behind the other. -/
def cat (a b : ByteArray) : ByteArray := ⟨(a.data.toList ++ b.data.toList).toArray⟩
theorem cat_list (a b : ByteArray) : (cat a b).data.toList = a.data.toList ++ b.data.toList := by simp [cat]
theorem size_list (a : ByteArray) : a.data.toList.length = a.size := by simp
theorem cat_size (a b : ByteArray) : (cat a b).size = a.size + b.size := by
  rw [← size_list, cat_list, List.length_append, size_list, size_list]
theorem join2_list (a b : List UInt8) : Lib.join [a, b] [] = a ++ b := by simp [Lib.join, List.intercalate]
theorem join3_list (a b c : List UInt8) : Lib.join [a, b, c] [] = a ++ (b ++ c) := by simp [Lib.join, List.intercalate]

theorem join2 (bk c : Nat) (a b : ByteArray) (w : World) (h0 : w.cell? ⟨bk, 0, none⟩ = some (.string a)) (h1 : w.cell? ⟨bk, 1, none⟩ = some (.string b)) (hc : 2 ≤ c) (hl : a.size + b.size ≤ 140737488355328) :
    Calls Tryd.prog 27 #[.slice (some ⟨bk, 0, none⟩) 2 c] w fun e w' => e = .returned (.string (cat a b)) ∧ Below w.heap.size w w' := by
  have h := join_list bk c [a, b] w (fun j x hj => by
    match j, hj with
    | 0, hj => simp at hj; subst hj; exact h0
    | 1, hj => simp at hj; subst hj; exact h1
    | j + 2, hj => simp at hj) (World.block_lt_of_cell? _ _ h0) (by simp) hc (by
      show (Lib.join [a.data.toList, b.data.toList] []).length ≤ _
      rw [join2_list, List.length_append, size_list, size_list]; exact hl)
  have e : (⟨(Lib.join ([a, b].map (·.data.toList)) []).toArray⟩ : ByteArray) = cat a b := by
    show (⟨(Lib.join [a.data.toList, b.data.toList] []).toArray⟩ : ByteArray) = _
    rw [join2_list]; rfl
  rw [e] at h
  exact h
theorem join3 (bk c : Nat) (a b d : ByteArray) (w : World) (h0 : w.cell? ⟨bk, 0, none⟩ = some (.string a)) (h1 : w.cell? ⟨bk, 1, none⟩ = some (.string b)) (h2 : w.cell? ⟨bk, 2, none⟩ = some (.string d)) (hc : 3 ≤ c)
    (hl : a.size + (b.size + d.size) ≤ 140737488355328) :
    Calls Tryd.prog 27 #[.slice (some ⟨bk, 0, none⟩) 3 c] w fun e w' => e = .returned (.string (cat a (cat b d))) ∧ Below w.heap.size w w' := by
  have h := join_list bk c [a, b, d] w (fun j x hj => by
    match j, hj with
    | 0, hj => simp at hj; subst hj; exact h0
    | 1, hj => simp at hj; subst hj; exact h1
    | 2, hj => simp at hj; subst hj; exact h2
    | j + 3, hj => simp at hj) (World.block_lt_of_cell? _ _ h0) (by simp) hc (by
      show (Lib.join [a.data.toList, b.data.toList, d.data.toList] []).length ≤ _
      rw [join3_list, List.length_append, List.length_append, size_list, size_list, size_list]; exact hl)
  have e : (⟨(Lib.join ([a, b, d].map (·.data.toList)) []).toArray⟩ : ByteArray) = cat a (cat b d) := by
    show (⟨(Lib.join [a.data.toList, b.data.toList, d.data.toList] []).toArray⟩ : ByteArray) = _
    rw [join3_list, cat, cat_list]
  rw [e] at h
  exact h

theorem allDigits_any (s : ByteArray) (hs : s.size ≤ 9223372036854775806) (w : World) :
    Calls Tryd.prog 25 #[.string s] w fun e W' => e = .returned (.bool (allB s)) ∧ Below w.heap.size w W' :=
  callsIn_wide.1 (allDigits_in Fence.wide 3 trivial trivial trivial rfl (by omega) s hs w)
theorem coefficient_any (s : ByteArray) (hs : s.size ≤ 9223372036854775806) (hall : allB s = true) (w : World) :
    Calls Tryd.prog 26 #[.string s] w fun e W' => e = .returned (coefV s) ∧ Below w.heap.size w W' :=
  callsIn_wide.1 (coefficient_in Fence.wide 3 trivial trivial trivial rfl (by omega) s hs hall w)

theorem allB_list (s : ByteArray) : allB s = s.data.toList.all isDgC := by
  rw [Bool.eq_iff_iff]
  simp only [allB, List.all_eq_true, List.mem_range]
  constructor
  · intro h c hc
    obtain ⟨i, hi, rfl⟩ := List.mem_iff_getElem.1 hc
    have h2 := h i (by rw [← size_list]; exact hi)
    simpa [isDg, bt, isDgC, List.getElem?_eq_getElem hi] using h2
  · intro h i hi
    rw [← size_list] at hi
    have h2 := h _ (List.getElem_mem hi)
    simpa [isDg, bt, isDgC, List.getElem?_eq_getElem hi] using h2
theorem val_list (s : ByteArray) : ∀ k, k ≤ s.size → val s k = valL (s.data.toList.take k)
  | 0, _ => rfl
  | k + 1, hk => by
    have hk' : k < s.data.toList.length := by rw [size_list]; omega
    rw [val, val_list s k (by omega), List.take_succ_eq_append_getElem hk', valL_snoc, bt, List.getElem?_eq_getElem hk']
    rfl
theorem val_all (s : ByteArray) : val s s.size = valL s.data.toList := by
  rw [val_list s s.size (Nat.le_refl _), List.take_of_length_le (by rw [size_list]; exact Nat.le_refl _)]
end Go.Proofs.YtjpndajbkemnlaaDoor
