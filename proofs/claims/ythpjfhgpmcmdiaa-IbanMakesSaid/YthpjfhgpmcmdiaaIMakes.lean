/-
  The walk of IbanMakes.
-/
import Derived.Test.YthpjfhgpmcmdiaaIbW
namespace Go.Proofs.Ythpjfhgpmcmdiaa
open Go.RowKit

theorem made_check {co re : List UInt8} (h : mayB co re = true) {x y : UInt8} (hx : x.toNat = 48 + (98 - uncN co re) / 10) (hy : y.toNat = 48 + (98 - uncN co re) % 10) : checkV (co ++ ([x, y] ++ re)) = 0 := by
  have hr := unc_rest h
  obtain ⟨n, e1, hz, -, hc, -, -, -⟩ := may_parts h
  have hu := uncN_lt co re
  have hm := made_rest hc hr hx hy
  have e2 : (co ++ ([x, y] ++ re)).getD 2 0 = x := by
    rw [List.getD_eq_getElem?_getD, List.getElem?_append_right (by omega), hc]; rfl
  have e3 : (co ++ ([x, y] ++ re)).getD 3 0 = y := by
    rw [List.getD_eq_getElem?_getD, List.getElem?_append_right (by omega), hc]; rfl
  have et : (co ++ ([x, y] ++ re)).take 2 = co := by rw [List.take_append_of_le_length (by omega), List.take_of_length_le (by omega)]
  have el : (co ++ ([x, y] ++ re)).length = n := by simp [hc]; omega
  rw [checkV, if_pos]
  refine ⟨by rw [el]; omega, ?_, ?_, by rw [et, e1, el], hm⟩
  · rw [e2, ibDg, Bool.and_eq_true]; exact ⟨decide_eq_true (by omega), decide_eq_true (by omega)⟩
  · rw [e3, ibDg, Bool.and_eq_true]; exact ⟨decide_eq_true (by omega), decide_eq_true (by omega)⟩

theorem less_lo {x y : UInt8} (h : 48 ≤ x.toNat) (h2 : x.toNat = 48 → 50 ≤ y.toNat) : Op.bytesLess [x, y] [48, 50] = false := by
  have e1 : (48 : UInt8).toNat = 48 := rfl
  have e2 : (50 : UInt8).toNat = 50 := rfl
  have n1 : ¬ x < 48 := by rw [UInt8.lt_iff_toNat_lt, e1]; omega
  by_cases h3 : x = 48
  · have h4 := h2 (by rw [h3]; rfl)
    have n2 : ¬ y < 50 := by rw [UInt8.lt_iff_toNat_lt, e2]; omega
    simp only [Op.bytesLess, decide_eq_false n1, decide_eq_false n2, Bool.and_false, Bool.or_false]
  · have n3 : (x == 48) = false := by rw [beq_eq_false_iff_ne]; exact h3
    simp only [Op.bytesLess, decide_eq_false n1, n3, Bool.false_and, Bool.or_false]
theorem less_hi {x y : UInt8} (h : x.toNat ≤ 57) (h2 : x.toNat = 57 → y.toNat ≤ 56) : (Op.bytesLess [x, y] [57, 56] || x == 57 && y == 56) = true := by
  have e1 : (57 : UInt8).toNat = 57 := rfl
  have e2 : (56 : UInt8).toNat = 56 := rfl
  by_cases h3 : x = 57
  · have h4 := h2 (by rw [h3]; rfl)
    have n3 : (x == 57) = true := by rw [beq_iff_eq]; exact h3
    by_cases h5 : y = 56
    · have n4 : (y == 56) = true := by rw [beq_iff_eq]; exact h5
      rw [n3, n4, Bool.and_self, Bool.or_true]
    · have n2 : y < 56 := by
        rw [UInt8.lt_iff_toNat_lt, e2]
        have : y.toNat ≠ 56 := fun e => h5 (UInt8.toNat_inj.1 e)
        omega
      simp only [Op.bytesLess, n3, decide_eq_true n2, Bool.true_and, Bool.true_or, Bool.or_true]
  · have n1 : x < 57 := by
      rw [UInt8.lt_iff_toNat_lt, e1]
      have : x.toNat ≠ 57 := fun e => h3 (UInt8.toNat_inj.1 e)
      omega
    simp only [Op.bytesLess, decide_eq_true n1, Bool.true_or]

set_option maxHeartbeats 1000000 in
theorem ibMakes_long (co re : ByteArray) (w : World) (h1 : co.size ≤ 140737488351232) (h2 : re.size ≤ 140737488351232) (hl : 100 < co.size + re.size) :
    Calls Try.prog 4 #[.string co, .string re] w fun e w' => e = .returned (.bool true) ∧ Below w.heap.size w w' := by
  go_enter Try.func4, Try.ntmps4
  go_wp2_with (go_at_call 6; with_reducible refine (ibwakes_any _).mono ?_; rintro e w1 ⟨rfl, h1⟩)
  go_returns
  exact ⟨rfl, h1⟩

set_option maxHeartbeats 2000000 in
theorem ibMakes_bad (co re : ByteArray) (w : World) (hl : co.size + re.size ≤ 100) (hb : mayB co.data.toList re.data.toList = false) :
    Calls Try.prog 4 #[.string co, .string re] w fun e w' => e = .returned (.bool true) ∧ Below w.heap.size w w' := by
  have z2 : (⟨#[48, 48]⟩ : ByteArray).size = 2 := rfl
  have z4 : (co ++ ⟨#[48, 48]⟩ : ByteArray).size = co.size + 2 := by simp [ByteArray.size_append, z2]
  have z6 : (co ++ ⟨#[48, 48]⟩ ++ re : ByteArray).size ≤ 1000 := by rw [ByteArray.size_append, z4]; omega
  have k1 : co.size + 2 ≤ 9223372036854775807 := by omega
  have k2 : co.size + 2 + re.size ≤ 9223372036854775807 := by omega
  have M1 := hid (fun w' => ibmake_bad co re w' hl hb)
  have L1 := hid (fun w' => refLength_any co w')
  have R1 := hid (fun w' => refRest_any _ w' z6)
  have hT : (co ++ ⟨#[48, 48]⟩ ++ re).data.toList = co.data.toList ++ ([48, 48] ++ re.data.toList) := by simp
  have hn : (lenV co.data.toList).2 = true → 15 ≤ (lenV co.data.toList).1 ∧ (lenV co.data.toList).1 ≤ 29 := fun h => (lenV_yes (Prod.ext rfl h)).2.2
  have hno : ¬ ((lenV co.data.toList).2 = true ∧ (restV (co ++ ⟨#[48, 48]⟩ ++ re).data.toList).2 = true ∧ re.size + 4 = (lenV co.data.toList).1) := by
    rintro ⟨q1, q2, q3⟩
    have e : restV (co ++ ⟨#[48, 48]⟩ ++ re).data.toList = ((restV (co ++ ⟨#[48, 48]⟩ ++ re).data.toList).1, true) := Prod.ext rfl q2
    have := (rest_horn e).2.2
    rw [hT] at this
    simp only [List.all_append, Bool.and_eq_true] at this
    have hl : re.data.toList.length = re.size := by simp
    rw [mayB, q1, this.2.2, hl, decide_eq_true q3] at hb
    cases hb
  generalize lenV co.data.toList = v at L1 hn hno
  generalize restV (co ++ ⟨#[48, 48]⟩ ++ re).data.toList = r at R1 hno
  obtain ⟨n, is⟩ := v
  obtain ⟨r1, r2⟩ := r
  dsimp only at L1 R1 hn hno
  clear hT hb
  cases is
  · clear hno hn
    go_enter Try.func4, Try.ntmps4
    go_wp2_with (first
      | (go_at_call 13; with_reducible refine (M1.out _).mono ?_; rintro e w1 ⟨rfl, h1⟩)
      | (go_at_call 10; with_reducible refine (L1.out _).mono ?_; rintro e w2 ⟨rfl, h2⟩)
      | (go_at_call 8; with_reducible refine (R1.out _).mono ?_; rintro e w3 ⟨rfl, h3⟩)
      | (go_at_call 6; with_reducible refine (ibwakes_any _).mono ?_; rintro e w4 ⟨rfl, h4⟩))
    go_returns
    have b2 := h1.trans (h2.mono h1.size)
    have b3 := b2.trans (h3.mono b2.size)
    exact ⟨rfl, b3.trans (h4.mono b3.size)⟩
  · obtain ⟨n1, n2⟩ := hn rfl
    cases r2
    · clear hno hn
      go_enter Try.func4, Try.ntmps4
      go_wp2_with (first
        | (go_at_call 13; with_reducible refine (M1.out _).mono ?_; rintro e w1 ⟨rfl, h1⟩)
        | (go_at_call 10; with_reducible refine (L1.out _).mono ?_; rintro e w2 ⟨rfl, h2⟩)
        | (go_at_call 8; with_reducible refine (R1.out _).mono ?_; rintro e w3 ⟨rfl, h3⟩)
        | (go_at_call 6; with_reducible refine (ibwakes_any _).mono ?_; rintro e w4 ⟨rfl, h4⟩))
      go_returns
      have b2 := h1.trans (h2.mono h1.size)
      have b3 := b2.trans (h3.mono b2.size)
      exact ⟨rfl, b3.trans (h4.mono b3.size)⟩
    · have hz : ¬ (re.size : Int) = (n : Int) - 4 := fun h => hno ⟨rfl, rfl, by omega⟩
      have hz2 : ((re.size : Int) != (n : Int) - 4) = true := by rw [bne_iff_ne]; exact hz
      clear hno hn hz
      go_enter Try.func4, Try.ntmps4
      go_wp2_with (first
        | (go_at_call 13; with_reducible refine (M1.out _).mono ?_; rintro e w1 ⟨rfl, h1⟩)
        | (go_at_call 10; with_reducible refine (L1.out _).mono ?_; rintro e w2 ⟨rfl, h2⟩)
        | (go_at_call 8; with_reducible refine (R1.out _).mono ?_; rintro e w3 ⟨rfl, h3⟩)
        | (go_at_call 6; with_reducible refine (ibwakes_any _).mono ?_; rintro e w4 ⟨rfl, h4⟩))
      go_returns
      have b2 := h1.trans (h2.mono h1.size)
      have b3 := b2.trans (h3.mono b2.size)
      exact ⟨rfl, b3.trans (h4.mono b3.size)⟩

set_option maxHeartbeats 2000000 in
theorem ibMakes_good (co re : ByteArray) (w : World) (hl : co.size + re.size ≤ 100) (hb : mayB co.data.toList re.data.toList = true) :
    Calls Try.prog 4 #[.string co, .string re] w fun e w' => e = .returned (.bool true) ∧ Below w.heap.size w w' := by
  obtain ⟨x, hx⟩ : ∃ x : UInt8, x.toNat = 48 + (98 - uncN co.data.toList re.data.toList) / 10 := ⟨UInt8.ofNat (48 + (98 - uncN co.data.toList re.data.toList) / 10), by simp; omega⟩
  obtain ⟨y, hy⟩ : ∃ y : UInt8, y.toNat = 48 + (98 - uncN co.data.toList re.data.toList) % 10 := ⟨UInt8.ofNat (48 + (98 - uncN co.data.toList re.data.toList) % 10), by simp; omega⟩
  have z2 : (⟨#[48, 48]⟩ : ByteArray).size = 2 := rfl
  have z3 : (⟨#[x, y]⟩ : ByteArray).size = 2 := rfl
  have z4 : (co ++ ⟨#[48, 48]⟩ : ByteArray).size = co.size + 2 := by simp [ByteArray.size_append, z2]
  have z5 : (co ++ ⟨#[x, y]⟩ ++ re : ByteArray).size = co.size + 2 + re.size := by simp [ByteArray.size_append, z3]
  have z6 : (co ++ ⟨#[48, 48]⟩ ++ re : ByteArray).size ≤ 1000 := by rw [ByteArray.size_append, z4]; omega
  have k1 : co.size + 2 ≤ 9223372036854775807 := by omega
  have k2 : co.size + 2 + re.size ≤ 9223372036854775807 := by omega
  have M1 := hid (fun w' => ibmake_good co re w' hl hb x y hx hy)
  have L1 := hid (fun w' => refLength_any co w')
  have R1 := hid (fun w' => refRest_any _ w' z6)
  have C1 := hid (fun w' => refCheck_any (co ++ ⟨#[x, y]⟩ ++ re) w' (by omega))
  have hT : (co ++ ⟨#[48, 48]⟩ ++ re).data.toList = co.data.toList ++ ([48, 48] ++ re.data.toList) := by simp
  have hS : (co ++ ⟨#[x, y]⟩ ++ re).data.toList = co.data.toList ++ ([x, y] ++ re.data.toList) := by simp
  rw [hT, unc_rest hb] at R1
  rw [hS, made_check hb hx hy] at C1
  obtain ⟨n, e1, hz, -, hc, -, hn1, hn2⟩ := may_parts hb
  rw [e1] at L1
  have hu := uncN_lt co.data.toList re.data.toList
  dsimp only at L1 R1
  have hco : co.size = 2 := by simpa using hc
  have hre : re.size + 4 = n := by simpa using hz
  have s1 : (co ++ ⟨#[x, y]⟩ ++ re).extract 0 2 = co := ib_str_eq (by
    rw [ByteArray.data_extract, Array.toList_extract, List.extract_eq_take_drop, hS, List.drop_zero, List.take_append_of_le_length (by omega), List.take_of_length_le (by omega)])
  have s2 : (co ++ ⟨#[x, y]⟩ ++ re).extract 4 (co ++ ⟨#[x, y]⟩ ++ re).size = re := ib_str_eq (by
    rw [ByteArray.data_extract, Array.toList_extract, List.extract_eq_take_drop, hS, ← List.append_assoc, List.drop_append_of_le_length (by simp [hc]), List.drop_of_length_le (by simp [hc]), List.nil_append, List.take_of_length_le (by simp; omega)])
  have s3 : (co ++ ⟨#[x, y]⟩ ++ re).extract 2 4 = ⟨#[x, y]⟩ := ib_str_eq (by
    rw [ByteArray.data_extract, Array.toList_extract, List.extract_eq_take_drop, hS, List.drop_append_of_le_length (by omega), List.drop_of_length_le (by omega)]
    rfl)
  have z7 : re.size + 4 = (co ++ ⟨#[x, y]⟩ ++ re).size := by omega
  have z8 : n = (co ++ ⟨#[x, y]⟩ ++ re).size := by omega
  subst z8
  clear hT hS e1 hz hc hre z5
  generalize co ++ ⟨#[x, y]⟩ ++ re = S at *
  generalize uncN co.data.toList re.data.toList = r at *
  have z9 : ((re.size : Int) != (S.size : Int) - 4) = false := by rw [bne_eq_false_iff_eq]; omega
  have z10 : 4 ≤ S.size := by omega
  have z11 : (S.size : Int) - 4 = re.size := by omega
  have g1 := less_lo (x := x) (y := y) (by omega) (by omega)
  have g2 := less_hi (x := x) (y := y) (by omega) (by omega)
  clear hb hn1 hn2 hx hy
  go_enter Try.func4, Try.ntmps4
  go_wp2_with (first
    | (go_at_call 13; with_reducible refine (M1.out _).mono ?_; rintro e w1 ⟨rfl, h1⟩)
    | (go_at_call 10; with_reducible refine (L1.out _).mono ?_; rintro e w2 ⟨rfl, h2⟩)
    | (go_at_call 8; with_reducible refine (R1.out _).mono ?_; rintro e w3 ⟨rfl, h3⟩))
  refine (C1.out _).mono ?_
  rintro e w4 ⟨rfl, h4⟩
  have b2 := h1.trans (h2.mono h1.size)
  have b3 := b2.trans (h3.mono b2.size)
  have b4 := b3.trans (h4.mono b3.size)
  clear h1 h2 h3 h4 b2 b3
  go_wp2_with fail
  refine (ibwakes_any _).mono ?_
  rintro e w5 ⟨rfl, h5⟩
  have b5 := b4.trans (h5.mono b4.size)
  clear b4 h5
  go_wp2
  go_returns
  exact ⟨rfl, b5⟩

theorem ibMakes_any (co : ByteArray) (h1 : co.size ≤ 140737488351232) (re : ByteArray) (h2 : re.size ≤ 140737488351232) (w : World) :
    Calls Try.prog 4 #[.string co, .string re] w fun e w' => e = .returned (.bool true) ∧ Below w.heap.size w w' := by
  by_cases h : co.size + re.size ≤ 100
  · by_cases hb : mayB co.data.toList re.data.toList = true
    · exact ibMakes_good co re w h hb
    · exact ibMakes_bad co re w h (by simpa using hb)
  · exact ibMakes_long co re w h1 h2 (by omega)
end Go.Proofs.Ythpjfhgpmcmdiaa
