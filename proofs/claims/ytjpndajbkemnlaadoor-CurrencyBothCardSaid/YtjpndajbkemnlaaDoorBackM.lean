/-
  Texts of a number are read as it: of no program.
-/
import Derived.Test.YtjpndajbkemnlaaDoorDigits
import Derived.Test.YtjpndajbkemnlaaDoorWrite
namespace Go.Proofs.YtjpndajbkemnlaaDoor
open Go.RowKit Go.Shelf

theorem dec_list (c : Nat) : (dec c).data.toList = Lib.decDigits c := by rw [dec, ba_toList]
theorem pad_list (c s : Nat) : (pad c s).data.toList = Lib.repeatL [48] (s + 1 - (dec c).size) ++ Lib.decDigits c := by rw [pad, cat_list, ba_toList, dec_list]
theorem pad_all (c s : Nat) : (pad c s).data.toList.all isDgC = true := by rw [pad_list, List.all_append, noughts_all, digits_all]; rfl
theorem pad_val (c s : Nat) : valL (pad c s).data.toList = c := by
  rw [pad_list, valL_append, noughts_val, digits_val]; omega
theorem ext_list (s : ByteArray) (a b : Nat) : (s.extract a b).data.toList = (s.data.toList.take b).drop a := by
  rw [ByteArray.data_extract, Array.toList_extract, List.extract_eq_take_drop, List.drop_take]
theorem ext_all {s : ByteArray} (h : s.data.toList.all isDgC = true) (a b : Nat) : (s.extract a b).data.toList.all isDgC = true := by
  rw [ext_list, List.all_eq_true]
  intro x hx
  exact List.all_eq_true.1 h x (List.mem_of_mem_take (List.mem_of_mem_drop hx))
theorem cat_parts (s : ByteArray) (k : Nat) (_h : k ≤ s.size) : cat (s.extract 0 k) (s.extract k s.size) = s := by
  refine ba_eq ?_
  rw [cat_list, ext_list, ext_list, List.drop_zero, List.take_of_length_le (i := s.size) (by rw [size_list]; exact Nat.le_refl _), List.take_append_drop]

/-- The two parts of a number's text. -/
theorem readN_pad (c s : Nat) (hc : c < 1000000000000000000) (hs : s ≤ 5) :
    readN ((pad c s).extract 0 ((pad c s).size - s)) ((pad c s).extract ((pad c s).size - s) (pad c s).size) = ((c : Int), (s : Int), 0) := by
  have hps := pad_size c s
  have hk : (pad c s).size - s ≤ (pad c s).size := by omega
  have h0 : ((pad c s).extract 0 ((pad c s).size - s)).size = (pad c s).size - s := by rw [ByteArray.size_extract]; omega
  have h1 : ((pad c s).extract ((pad c s).size - s) (pad c s).size).size = s := by rw [ByteArray.size_extract]; omega
  unfold readN
  rw [cat_parts _ _ hk, val_all, pad_val, h1, h0, allB_list, allB_list, ext_all (pad_all c s), ext_all (pad_all c s)]
  rw [if_neg (by simp; omega), if_neg (by omega)]

theorem partsAt_some {t : ByteArray} {c : UInt8} {k : Nat} (h : Lib.indexByte t.data.toList c = k) : partsAt t c = some (t.extract 0 k, t.extract (k + 1) t.size) := by
  rw [partsAt, if_neg (by rw [h]; omega), h]; rfl
theorem partsAt_mark (a b : ByteArray) (c : UInt8) (hc : isDgC c = false) (ha : a.data.toList.all isDgC = true) : partsAt (cat a (cat ⟨#[c]⟩ b)) c = some (a, b) := by
  have hl : (cat a (cat ⟨#[c]⟩ b)).data.toList = a.data.toList ++ c :: b.data.toList := by rw [cat_list, cat_list]; rfl
  have hi : Lib.indexByte (cat a (cat ⟨#[c]⟩ b)).data.toList c = a.size := by rw [hl, index_behind c hc _ _ ha, size_list]
  rw [partsAt_some hi]
  have hsz : (cat a (cat ⟨#[c]⟩ b)).size = a.size + (1 + b.size) := by rw [cat_size, cat_size]; rfl
  have e1 : (cat a (cat ⟨#[c]⟩ b)).extract 0 a.size = a := by
    refine ba_eq ?_
    rw [ext_list, hl, List.drop_zero, ← size_list a, List.take_left]
  have e2 : (cat a (cat ⟨#[c]⟩ b)).extract (a.size + 1) (cat a (cat ⟨#[c]⟩ b)).size = b := by
    refine ba_eq ?_
    rw [ext_list, hl, List.take_of_length_le (by rw [hsz, List.length_append, List.length_cons, size_list, size_list]; omega), ← size_list a, List.drop_length_add_append]
    rfl
  rw [e1, e2]

theorem txt_good {c s : Nat} {mark : ByteArray} (h : goodB false c s = true) : txt false c s mark = (wr c s mark, 0) := by
  rw [txt, h]; simp
theorem wr_size (c s : Nat) (mark : ByteArray) : (wr c s mark).size = (pad c s).size + mark.size := by
  have hps := pad_size c s
  rw [wr, cat_size, cat_size, ByteArray.size_extract, ByteArray.size_extract]; omega

/-- A number's text of the MT family is read as it. -/
theorem mt_back {c s : Nat} (h : goodB false c s = true) : (mtN false c s).2 = 0 ∧ parseMTN (mtN false c s).1 = ((c : Int), (s : Int), 0) := by
  obtain ⟨_, hc, _, hs, _⟩ := goodB_parts h
  rw [mtN, txt_good h]
  refine ⟨rfl, ?_⟩
  show parseMTN (wr c s ⟨#[44]⟩) = _
  rw [parseMTN, wr, partsAt_mark _ _ 44 (by decide) (ext_all (pad_all c s) _ _)]
  exact readN_pad c s (by omega) (by omega)
/-- A number's text of XML is read as it. -/
theorem xml_back {c s : Nat} (h : goodB false c s = true) : (xmlN false c s).2 = 0 ∧ parseXMLN (xmlN false c s).1 = ((c : Int), (s : Int), 0) := by
  obtain ⟨_, hc, _, hs, _⟩ := goodB_parts h
  have hp := readN_pad c s (by omega) (by omega)
  have hps := pad_size c s
  by_cases h0 : s = 0
  · subst h0
    rw [xmlN, if_pos (show ((0 : Nat) : Int) = 0 from rfl), txt_good (mark := ⟨#[]⟩) h]
    refine ⟨rfl, ?_⟩
    show parseXMLN (wr c 0 ⟨#[]⟩) = _
    have e1 : (pad c 0).extract ((pad c 0).size - 0) (pad c 0).size = ⟨#[]⟩ := by
      refine ba_eq ?_
      rw [ext_list, Nat.sub_zero, ← size_list, List.take_length, List.drop_length]
    have e2 : wr c 0 ⟨#[]⟩ = (pad c 0).extract 0 ((pad c 0).size - 0) := by
      rw [wr, e1]
      refine ba_eq ?_
      rw [cat_list, cat_list]; simp
    have hi : Lib.indexByte (wr c 0 ⟨#[]⟩).data.toList 46 = -1 := by rw [e2]; exact index_nowhere 46 (by decide) _ (ext_all (pad_all c 0) _ _)
    rw [parseXMLN, partsAt, if_pos hi]
    show readN (wr c 0 ⟨#[]⟩) ⟨#[]⟩ = _
    rw [e1] at hp
    rw [e2]
    exact hp
  · rw [xmlN, if_neg (by omega), txt_good h]
    refine ⟨rfl, ?_⟩
    show parseXMLN (wr c s ⟨#[46]⟩) = _
    rw [parseXMLN, wr, partsAt_mark _ _ 46 (by decide) (ext_all (pad_all c s) _ _)]
    show (if _ then _ else _) = _
    rw [if_neg (by rw [ByteArray.size_extract]; omega)]
    exact hp

/-- What is read is good, or nothing. -/
theorem readN_cases (a b : ByteArray) : (∃ c s : Nat, readN a b = ((c : Int), (s : Int), 0) ∧ goodB false c s = true ∧ (pad c s).size ≤ a.size + b.size) ∨ readN a b = (0, 0, 10) ∨ readN a b = (0, 0, 11) := by
  unfold readN
  by_cases h1 : a.size = 0 ∨ allB a = false ∨ allB b = false
  · rw [if_pos h1]; exact .inr (.inl rfl)
  · rw [if_neg h1]
    by_cases h2 : ¬ val (cat a b) (cat a b).size < 1000000000000000000 ∨ ¬ b.size ≤ 5
    · rw [if_pos h2]; exact .inr (.inr rfl)
    · rw [if_neg h2]
      have ha : allB a = true := by cases h : allB a <;> simp_all
      have hb : allB b = true := by cases h : allB b <;> simp_all
      have hall := cat_all ha hb
      rw [val_all] at h2 ⊢
      rw [allB_list] at hall
      have hbd := valL_bd hall
      have hsz := cat_size a b
      obtain ⟨c, hc⟩ : ∃ c : Nat, valL (cat a b).data.toList = c := ⟨_, (Int.toNat_of_nonneg hbd.1).symm⟩
      refine .inl ⟨c, b.size, by rw [hc], ?_, ?_⟩
      · unfold goodB
        simp only [Bool.and_eq_true, decide_eq_true_eq, Bool.or_eq_true]
        refine ⟨by omega, by omega, by omega, by omega, .inr rfl⟩
      · have hd := digits_of_val hall (by rw [size_list]; omega) hc
        rw [size_list] at hd
        rw [pad_size, dec_size]
        have : a.size ≠ 0 := fun h => h1 (.inl h)
        omega
theorem parseMTN_cases (t : ByteArray) : (∃ c s : Nat, parseMTN t = ((c : Int), (s : Int), 0) ∧ goodB false c s = true ∧ (mtN false c s).1.size ≤ t.size) ∨ ∃ e : Int, parseMTN t = (0, 0, e) ∧ e ≠ 0 := by
  rcases partsAt_cases t 44 with ⟨_, hp⟩ | ⟨o, _, ho, hp⟩
  · rw [parseMTN, hp]; exact .inr ⟨10, rfl, by decide⟩
  · rw [parseMTN, hp]
    show (∃ c s : Nat, readN (t.extract 0 o) (t.extract (o + 1) t.size) = _ ∧ _) ∨ ∃ e : Int, readN (t.extract 0 o) (t.extract (o + 1) t.size) = _ ∧ _
    rcases readN_cases (t.extract 0 o) (t.extract (o + 1) t.size) with ⟨c, s, h, hg, hz⟩ | h | h
    · refine .inl ⟨c, s, h, hg, ?_⟩
      rw [mtN, txt_good hg]
      show (wr c s ⟨#[44]⟩).size ≤ _
      rw [wr_size]
      have e1 : (t.extract 0 o).size = _ := ByteArray.size_extract
      have e2 : (t.extract (o + 1) t.size).size = _ := ByteArray.size_extract
      show _ + 1 ≤ _
      omega
    · exact .inr ⟨10, h, by decide⟩
    · exact .inr ⟨11, h, by decide⟩
end Go.Proofs.YtjpndajbkemnlaaDoor
