/-
  read, ParseMT, ParseXML.
-/
import Derived.Test.YtjpndajbkemnlaaDoorText
namespace Go.Proofs.YtjpndajbkemnlaaDoor
open Go.RowKit Go.Shelf

/-- A number, and an error's number. -/
abbrev numV (g : Bool) (c s e : Int) : Value := .tuple #[.agg #[.bool g, .int .i64 c, .int .i64 s], .int .i64 e]

set_option maxHeartbeats 400000 in
theorem read_1 (a b : ByteArray) (w : World) (h : a.toList.isEmpty = true) :
    Calls Tryd.prog 15 #[.string a, .string b] w fun e w' => e = .returned (numV false 0 0 10) ∧ Below w.heap.size w w' := by
  go_enter Tryd.func15, Tryd.ntmps15
  go_wp2
  go_returns
  exact ⟨rfl, by go_grown⟩

set_option maxHeartbeats 400000 in
theorem read_2 (a b : ByteArray) (w : World) (h : a.toList.isEmpty = false) (h2 : allB a = false) (hs : a.size ≤ 9223372036854775806) :
    Calls Tryd.prog 15 #[.string a, .string b] w fun e w' => e = .returned (numV false 0 0 10) ∧ Below w.heap.size w w' := by
  have H2 := hid h2
  clear h2
  go_enter Tryd.func15, Tryd.ntmps15
  go_wp2_with fail
  with_reducible refine (allDigits_any _ hs _).mono ?_
  rintro e w1 ⟨rfl, h1⟩
  rw [H2.out]
  obtain ⟨hc, hf⟩ := bcell h1
  have hz := h1.size
  rw [World.size_alloc] at hz
  have b1 : Below w.heap.size w w1 := ((Below.refl _ _).alloc (Nat.le_refl _) _).trans (h1.mono (by simp))
  go_wp2
  refine bodyPost_ret (v := numV false 0 0 10) (by simp [results, Tryd.results15, go_sem, *]) rfl ⟨rfl, ?_⟩
  go_grown

set_option maxHeartbeats 400000 in
theorem read_3 (a b : ByteArray) (w : World) (h : a.toList.isEmpty = false) (h2 : allB a = true) (h3 : allB b = false) (hs : a.size ≤ 9223372036854775806) (hs2 : b.size ≤ 9223372036854775806) :
    Calls Tryd.prog 15 #[.string a, .string b] w fun e w' => e = .returned (numV false 0 0 10) ∧ Below w.heap.size w w' := by
  have H2 := hid h2
  have H3 := hid h3
  clear h2 h3
  go_enter Tryd.func15, Tryd.ntmps15
  go_wp2_with fail
  with_reducible refine (allDigits_any _ hs _).mono ?_
  rintro e w1 ⟨rfl, h1⟩
  rw [H2.out]
  go_wp2_with fail
  with_reducible refine (allDigits_any _ hs2 _).mono ?_
  rintro e w2 ⟨rfl, h2⟩
  rw [H3.out]
  replace h2 := h1.trans (h2.mono h1.size)
  obtain ⟨hc, hf⟩ := bcell h2
  have hz := h2.size
  rw [World.size_alloc] at hz
  have b1 : Below w.heap.size w w2 := ((Below.refl _ _).alloc (Nat.le_refl _) _).trans (h2.mono (by simp))
  go_wp2
  refine bodyPost_ret (v := numV false 0 0 10) (by simp [results, Tryd.results15, go_sem, *]) rfl ⟨rfl, ?_⟩
  go_grown

set_option maxHeartbeats 1000000 in
theorem read_4 (a b : ByteArray) (w : World) (h : a.toList.isEmpty = false) (h2 : allB a = true) (h3 : allB b = true) (h4 : allB (cat a b) = true) (hv : ¬ val (cat a b) (cat a b).size < 1000000000000000000) (hs : a.size + b.size ≤ 140737488355328) :
    Calls Tryd.prog 15 #[.string a, .string b] w fun e w' => e = .returned (numV false 0 0 11) ∧ Below w.heap.size w w' := by
  have H2 := hid h2
  have H3 := hid h3
  have HV : Hid (coefV (cat a b) = .tuple #[.int .i64 0, .bool false]) := by show _ = _; rw [coefV, if_neg hv]
  have hcs : (cat a b).size ≤ 9223372036854775806 := by rw [cat_size]; omega
  clear h2 h3 hv
  go_enter Tryd.func15, Tryd.ntmps15
  go_wp2_with fail
  with_reducible refine (allDigits_any _ (by omega) _).mono ?_
  rintro e w1 ⟨rfl, h1⟩
  rw [H2.out]
  go_wp2_with fail
  with_reducible refine (allDigits_any _ (by omega) _).mono ?_
  rintro e w2 ⟨rfl, h2⟩
  rw [H3.out]
  replace h2 := h1.trans (h2.mono h1.size)
  go_wp2_with fail
  with_reducible refine (join2 _ _ _ _ _ (by simp [go_sem]) (by simp [go_sem]) (by omega) hs).mono ?_
  rintro e w3 ⟨rfl, h3⟩
  replace h3 := h2.trans (((Below.refl _ _).alloc (Nat.le_refl _) _).trans (h3.mono (by simp)) |>.mono h2.size)
  go_wp2_with fail
  with_reducible refine (coefficient_any _ hcs h4 _).mono ?_
  rintro e w4 ⟨rfl, h5⟩
  rw [HV.out]
  replace h5 := h3.trans (h5.mono h3.size)
  obtain ⟨hc, hf⟩ := bcell h5
  have hz := h5.size
  rw [World.size_alloc] at hz
  have b1 : Below w.heap.size w w4 := ((Below.refl _ _).alloc (Nat.le_refl _) _).trans (h5.mono (by simp))
  go_wp2
  refine bodyPost_ret (v := numV false 0 0 11) (by simp [results, Tryd.results15, go_sem, *]) rfl ⟨rfl, ?_⟩
  go_grown

set_option maxHeartbeats 1000000 in
theorem read_5 (a b : ByteArray) (w : World) (h : a.toList.isEmpty = false) (h2 : allB a = true) (h3 : allB b = true) (h4 : allB (cat a b) = true) (hv : val (cat a b) (cat a b).size < 1000000000000000000) (hs : a.size + b.size ≤ 140737488355328) :
    Calls Tryd.prog 15 #[.string a, .string b] w fun e w' => e = .returned (if b.size ≤ 5 then numV false (val (cat a b) (cat a b).size) b.size 0 else numV false 0 0 11) ∧ Below w.heap.size w w' := by
  have H2 := hid h2
  have H3 := hid h3
  have HV : Hid (coefV (cat a b) = .tuple #[.int .i64 (val (cat a b) (cat a b).size), .bool true]) := by show _ = _; rw [coefV, if_pos hv]
  have hcs : (cat a b).size ≤ 9223372036854775806 := by rw [cat_size]; omega
  clear h2 h3 hv
  generalize val (cat a b) (cat a b).size = v at HV ⊢
  by_cases h5 : b.size ≤ 5
  all_goals
    first | rw [if_pos h5] | rw [if_neg h5]
    go_enter Tryd.func15, Tryd.ntmps15
    go_wp2_with fail
    with_reducible refine (allDigits_any _ (by omega) _).mono ?_
    rintro e w1 ⟨rfl, h1⟩
    rw [H2.out]
    go_wp2_with fail
    with_reducible refine (allDigits_any _ (by omega) _).mono ?_
    rintro e w2 ⟨rfl, h2⟩
    rw [H3.out]
    replace h2 := h1.trans (h2.mono h1.size)
    go_wp2_with fail
    with_reducible refine (join2 _ _ _ _ _ (by simp [go_sem]) (by simp [go_sem]) (by omega) hs).mono ?_
    rintro e w3 ⟨rfl, h3⟩
    replace h3 := h2.trans (((Below.refl _ _).alloc (Nat.le_refl _) _).trans (h3.mono (by simp)) |>.mono h2.size)
    go_wp2_with fail
    with_reducible refine (coefficient_any _ hcs h4 _).mono ?_
    rintro e w4 ⟨rfl, h6⟩
    rw [HV.out]
    replace h6 := h3.trans (h6.mono h3.size)
    obtain ⟨hc, hf⟩ := bcell h6
    have hz := h6.size
    rw [World.size_alloc] at hz
    have b1 : Below w.heap.size w w4 := ((Below.refl _ _).alloc (Nat.le_refl _) _).trans (h6.mono (by simp))
    go_wp2
    first | refine bodyPost_ret (v := numV false v b.size 0) (by simp [results, Tryd.results15, go_sem, *]; done) rfl ⟨rfl, ?_⟩ | refine bodyPost_ret (v := numV false 0 0 11) (by simp [results, Tryd.results15, go_sem, *]) rfl ⟨rfl, ?_⟩
    go_grown

/-- What is read of the digits ahead of a mark and behind it: coefficient, scale, error. -/
def readN (a b : ByteArray) : Int × Int × Int :=
  if a.size = 0 ∨ allB a = false ∨ allB b = false then (0, 0, 10)
  else if ¬ val (cat a b) (cat a b).size < 1000000000000000000 ∨ ¬ b.size ≤ 5 then (0, 0, 11)
  else (val (cat a b) (cat a b).size, b.size, 0)
theorem empty_of {a : ByteArray} (h : a.size = 0) : a.toList.isEmpty = true := by
  rw [Go.ByteArray.toList_eq, List.isEmpty_iff]
  exact List.eq_nil_of_length_eq_zero (by rw [size_list]; exact h)
theorem nonempty_of {a : ByteArray} (h : a.size ≠ 0) : a.toList.isEmpty = false := by
  rw [Go.ByteArray.toList_eq, ← Bool.not_eq_true, List.isEmpty_iff]
  intro e
  exact h (by rw [← size_list, e]; rfl)
theorem cat_all {a b : ByteArray} (h : allB a = true) (h2 : allB b = true) : allB (cat a b) = true := by
  rw [allB_list] at h h2 ⊢
  rw [cat_list, List.all_append, h, h2]; rfl

theorem read_any (a b : ByteArray) (w : World) (hs : a.size + b.size ≤ 140737488355328) :
    Calls Tryd.prog 15 #[.string a, .string b] w fun e w' => e = .returned (numV false (readN a b).1 (readN a b).2.1 (readN a b).2.2) ∧ Below w.heap.size w w' := by
  unfold readN
  by_cases h1 : a.size = 0
  · rw [if_pos (.inl h1)]
    exact read_1 a b w (empty_of h1)
  · cases h2 : allB a
    · rw [if_pos (.inr (.inl rfl))]
      exact read_2 a b w (nonempty_of h1) h2 (by omega)
    · cases h3 : allB b
      · rw [if_pos (.inr (.inr rfl))]
        exact read_3 a b w (nonempty_of h1) h2 h3 (by omega) (by omega)
      · rw [if_neg (by simp [h1])]
        by_cases hv : val (cat a b) (cat a b).size < 1000000000000000000
        · have h := read_5 a b w (nonempty_of h1) h2 h3 (cat_all h2 h3) hv hs
          by_cases h5 : b.size ≤ 5
          · rw [if_pos h5] at h
            rw [if_neg (by simp [hv, h5])]
            exact h
          · rw [if_neg h5] at h
            rw [if_pos (.inr h5)]
            exact h
        · rw [if_pos (.inl hv)]
          exact read_4 a b w (nonempty_of h1) h2 h3 (cat_all h2 h3) hv hs

/-- The texts ahead of the first byte c, and behind it. -/
def partsAt (s : ByteArray) (c : UInt8) : Option (ByteArray × ByteArray) :=
  if Lib.indexByte s.data.toList c = -1 then none else some (s.extract 0 (Lib.indexByte s.data.toList c).toNat, s.extract ((Lib.indexByte s.data.toList c).toNat + 1) s.size)
theorem partsAt_cases (s : ByteArray) (c : UInt8) : (Lib.indexByte s.data.toList c = -1 ∧ partsAt s c = none) ∨
    ∃ o : Nat, Lib.indexByte s.data.toList c = o ∧ o < s.size ∧ partsAt s c = some (s.extract 0 o, s.extract (o + 1) s.size) := by
  by_cases h : Lib.indexByte s.data.toList c = -1
  · exact .inl ⟨h, by rw [partsAt, if_pos h]⟩
  · have h1 := Lib.indexByte_ge s.data.toList c
    obtain ⟨o, ho⟩ : ∃ o : Nat, Lib.indexByte s.data.toList c = o := ⟨_, (Int.toNat_of_nonneg (by omega)).symm⟩
    refine .inr ⟨o, ho, ?_, ?_⟩
    · have := (Lib.indexByte_some ho).1
      rw [← size_list]
      exact (List.getElem?_eq_some_iff.1 this).1
    · rw [partsAt, if_neg h, ho]; rfl
theorem extract_size (s : ByteArray) (a b : Nat) : (s.extract a b).size ≤ b - a := by rw [ByteArray.size_extract]; omega

/-- What ParseMT tells: coefficient, scale, error. -/
def parseMTN (s : ByteArray) : Int × Int × Int := match partsAt s 44 with
  | none => (0, 0, 10)
  | some (a, b) => readN a b
/-- What ParseXML tells. -/
def parseXMLN (s : ByteArray) : Int × Int × Int := match partsAt s 46 with
  | none => readN s ⟨#[]⟩
  | some (a, b) => if b.size = 0 then (0, 0, 10) else readN a b

set_option maxHeartbeats 400000 in
theorem parseMT_any (s : ByteArray) (w : World) (hs : s.size ≤ 140737488355328) :
    Calls Tryd.prog 6 #[.string s] w fun e w' => e = .returned (numV false (parseMTN s).1 (parseMTN s).2.1 (parseMTN s).2.2) ∧ Below w.heap.size w w' := by
  rcases partsAt_cases s 44 with ⟨hi, hp⟩ | ⟨o, hi, ho, hp⟩
  · have e : parseMTN s = (0, 0, 10) := by rw [parseMTN, hp]
    rw [e]
    clear e hp
    have HI := hid hi
    clear hi
    go_enter Tryd.func6, Tryd.ntmps6
    go_wp2_with fail
    with_reducible refine (cut_none _ _ HI.out _).mono ?_
    rintro e w1 ⟨rfl, h1⟩
    obtain ⟨hc, hf⟩ := bcell h1
    have hz := h1.size
    rw [World.size_alloc] at hz
    have b1 : Below w.heap.size w w1 := ((Below.refl _ _).alloc (Nat.le_refl _) _).trans (h1.mono (by simp))
    go_wp2
    refine bodyPost_ret (v := numV false 0 0 10) (by simp [results, Tryd.results6, go_sem, *]) rfl ⟨rfl, ?_⟩
    go_grown
  · have e : parseMTN s = readN (s.extract 0 o) (s.extract (o + 1) s.size) := by rw [parseMTN, hp]
    have hr := fun w' => read_any (s.extract 0 o) (s.extract (o + 1) s.size) w' (by have := extract_size s 0 o; have := extract_size s (o + 1) s.size; omega)
    rw [← e] at hr
    clear e hp
    generalize parseMTN s = v at hr ⊢
    obtain ⟨vc, vs, ve⟩ := v
    dsimp only at hr ⊢
    have HR := hid hr
    have HI := hid hi
    clear hi hr
    go_enter Tryd.func6, Tryd.ntmps6
    go_wp2_with fail
    with_reducible refine (cut_some _ _ o HI.out ho (by omega) _).mono ?_
    rintro e w1 ⟨rfl, h1⟩
    go_wp2_with fail
    with_reducible refine (HR.out _).mono ?_
    rintro e w2 ⟨rfl, h2⟩
    replace h2 := h1.trans (h2.mono h1.size)
    obtain ⟨hc, hf⟩ := bcell h2
    have hz := h2.size
    rw [World.size_alloc] at hz
    have b1 : Below w.heap.size w w2 := ((Below.refl _ _).alloc (Nat.le_refl _) _).trans (h2.mono (by simp))
    go_wp2
    refine bodyPost_ret (v := numV false vc vs ve) (by simp [results, Tryd.results6, go_sem, *]) rfl ⟨rfl, ?_⟩
    go_grown

set_option maxHeartbeats 400000 in
theorem parseXML_any (s : ByteArray) (w : World) (hs : s.size ≤ 140737488355328) :
    Calls Tryd.prog 17 #[.string s] w fun e w' => e = .returned (numV false (parseXMLN s).1 (parseXMLN s).2.1 (parseXMLN s).2.2) ∧ Below w.heap.size w w' := by
  rcases partsAt_cases s 46 with ⟨hi, hp⟩ | ⟨o, hi, ho, hp⟩
  · have e : parseXMLN s = readN s ⟨#[]⟩ := by rw [parseXMLN, hp]
    have hr := fun w' => read_any s ⟨#[]⟩ w' (by show s.size + 0 ≤ _; omega)
    rw [← e] at hr
    clear e hp
    generalize parseXMLN s = v at hr ⊢
    obtain ⟨vc, vs, ve⟩ := v
    dsimp only at hr ⊢
    have HR := hid hr
    have HI := hid hi
    clear hi hr
    go_enter Tryd.func17, Tryd.ntmps17
    go_wp2_with fail
    with_reducible refine (cut_none _ _ HI.out _).mono ?_
    rintro e w1 ⟨rfl, h1⟩
    go_wp2_with fail
    with_reducible refine (HR.out _).mono ?_
    rintro e w2 ⟨rfl, h2⟩
    replace h2 := h1.trans (h2.mono h1.size)
    obtain ⟨hc, hf⟩ := bcell h2
    have hz := h2.size
    rw [World.size_alloc] at hz
    have b1 : Below w.heap.size w w2 := ((Below.refl _ _).alloc (Nat.le_refl _) _).trans (h2.mono (by simp))
    go_wp2
    refine bodyPost_ret (v := numV false vc vs ve) (by simp [results, Tryd.results17, go_sem, *]) rfl ⟨rfl, ?_⟩
    go_grown
  · by_cases hb : (s.extract (o + 1) s.size).size = 0
    · have e : parseXMLN s = (0, 0, 10) := by rw [parseXMLN, hp]; exact if_pos hb
      have he := empty_of hb
      rw [e]
      clear e hp hb
      have HI := hid hi
      clear hi
      go_enter Tryd.func17, Tryd.ntmps17
      go_wp2_with fail
      with_reducible refine (cut_some _ _ o HI.out ho (by omega) _).mono ?_
      rintro e w1 ⟨rfl, h1⟩
      obtain ⟨hc, hf⟩ := bcell h1
      have hz := h1.size
      rw [World.size_alloc] at hz
      have b1 : Below w.heap.size w w1 := ((Below.refl _ _).alloc (Nat.le_refl _) _).trans (h1.mono (by simp))
      go_wp2
      refine bodyPost_ret (v := numV false 0 0 10) (by simp [results, Tryd.results17, go_sem, *]) rfl ⟨rfl, ?_⟩
      go_grown
    · have e : parseXMLN s = readN (s.extract 0 o) (s.extract (o + 1) s.size) := by rw [parseXMLN, hp]; exact if_neg hb
      have he := nonempty_of hb
      have hr := fun w' => read_any (s.extract 0 o) (s.extract (o + 1) s.size) w' (by have := extract_size s 0 o; have := extract_size s (o + 1) s.size; omega)
      rw [← e] at hr
      clear e hp
      generalize parseXMLN s = v at hr ⊢
      obtain ⟨vc, vs, ve⟩ := v
      dsimp only at hr ⊢
      have HR := hid hr
      have HI := hid hi
      clear hi hr
      go_enter Tryd.func17, Tryd.ntmps17
      go_wp2_with fail
      with_reducible refine (cut_some _ _ o HI.out ho (by omega) _).mono ?_
      rintro e w1 ⟨rfl, h1⟩
      go_wp2_with fail
      with_reducible refine (HR.out _).mono ?_
      rintro e w2 ⟨rfl, h2⟩
      replace h2 := h1.trans (h2.mono h1.size)
      obtain ⟨hc, hf⟩ := bcell h2
      have hz := h2.size
      rw [World.size_alloc] at hz
      have b1 : Below w.heap.size w w2 := ((Below.refl _ _).alloc (Nat.le_refl _) _).trans (h2.mono (by simp))
      go_wp2
      refine bodyPost_ret (v := numV false vc vs ve) (by simp [results, Tryd.results17, go_sem, *]) rfl ⟨rfl, ?_⟩
      go_grown
end Go.Proofs.YtjpndajbkemnlaaDoor
