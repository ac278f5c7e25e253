/-
  The document's own answers: a number's text.
-/
import Derived.Test.YtfiifppmpehncaaDoorRefA
import Derived.Test.YtfiifppmpehncaaDoorBackM
namespace Go.Proofs.YtfiifppmpehncaaDoor
open Go.RowKit Go.Shelf

/-- A number without its last i digits. -/
def sh (c i : Nat) : Nat := c / 10 ^ i
theorem sh_zero (c : Nat) : sh c 0 = c := by simp [sh]
theorem sh_succ (c i : Nat) : sh c (i + 1) = sh c i / 10 := by rw [sh, sh, Nat.pow_succ, Nat.div_div_eq_div_mul]
theorem sh_le (c i : Nat) : sh c i ≤ c := Nat.div_le_self _ _
/-- A digit. -/
def dgc (k : Nat) : UInt8 := UInt8.ofNat (48 + k)
/-- The last i digits. -/
def low (c : Nat) : Nat → List UInt8
  | 0 => []
  | i + 1 => dgc (sh c i % 10) :: low c i
def str (l : List UInt8) : ByteArray := ⟨l.toArray⟩
theorem dgc_nat (k : Nat) (h : k < 10) : (dgc k).toNat = 48 + k := by
  have hb : ∀ k, k < 10 → (UInt8.ofNat (48 + k)).toNat = 48 + k := by decide
  exact hb k h
theorem conv_digit (W : World) (d : Nat) : (convert 48 9 (.slice (some ⟨W.heap.size, 0, none⟩) 1 1)).run Tryd.prog (W.alloc (.cells #[.int .u8 (48 + (d : Int) % 10)] 5)) = .ok (.string (str [dgc (d % 10)])) (W.alloc (.cells #[.int .u8 (48 + (d : Int) % 10)] 5)) := by
  refine run_convert_bytes_back _ _ _ 5 _ 1 [dgc (d % 10)] Tryd.underlying48 Tryd.underlying5 Tryd.underlying9 ?_
  intro j hj
  obtain rfl : j = 0 := by simpa using hj
  have hn := dgc_nat (d % 10) (by omega)
  simp only [List.getElem_cons_zero, hn]
  simp [go_sem, Addr.add]
theorem str_size (l : List UInt8) : (str l).size = l.length := by rw [← size_list, str, ba_toList]
theorem low_length (c : Nat) : ∀ i, (low c i).length = i
  | 0 => rfl
  | i + 1 => by rw [low, List.length_cons, low_length c i]
theorem str_app (a b : List UInt8) : str a ++ str b = str (a ++ b) := by
  refine ba_eq ?_
  simp [str]
theorem str_list (l : List UInt8) : (str l).data.toList = l := ba_toList l
theorem sh_left (c i : Nat) : sh c (i + 1) = sh (c / 10) i := by rw [sh, sh, Nat.pow_succ', Nat.div_div_eq_div_mul]
theorem low_snoc (c : Nat) : ∀ i, low c (i + 1) = low (c / 10) i ++ [dgc (c % 10)]
  | 0 => by simp [low, sh_zero]
  | i + 1 => by
    rw [low, low_snoc c i, sh_left]
    rfl
/-- The digits ahead, none of 0. -/
def dec0 (d : Nat) : List UInt8 := if d = 0 then [] else Lib.decDigits d
theorem dec0_step (d : Nat) : dec0 (d / 10) ++ [dgc (d % 10)] = Lib.decDigits d := by
  rw [Lib.decDigits, dec0]
  by_cases h : d < 10
  · rw [if_pos (by omega), dif_pos h, Nat.mod_eq_of_lt h]; rfl
  · rw [if_neg (by omega), dif_neg h]; rfl
theorem dec0_pos {d : Nat} (h : d ≠ 0) : dec0 d = dec0 (d / 10) ++ [dgc (d % 10)] := by rw [dec0_step, dec0, if_neg h]
theorem pad_low : ∀ (s c : Nat), (pad c s).data.toList = Lib.decDigits (sh c s) ++ low c s
  | 0, c => by
    rw [pad_list, dec_size]
    have := nDigits_pos c
    have e : 0 + 1 - Lib.nDigits c = 0 := by omega
    rw [e, sh_zero]
    simp [Lib.repeatL, low]
  | s + 1, c => by
    rw [low_snoc, sh_left, ← List.append_assoc, ← pad_low s (c / 10), pad_list, pad_list, dec_size, dec_size]
    by_cases h : c < 10
    · have e0 : c / 10 = 0 := by omega
      have e1 : Lib.nDigits c = 1 := Lib.nDigits_small h
      have e2 : Lib.nDigits 0 = 1 := Lib.nDigits_small (by omega)
      rw [e0, e1, e2, Lib.decDigits_one h, Lib.decDigits_one (by omega), Nat.mod_eq_of_lt h]
      have e3 : Lib.repeatL [48] (s + 1 + 1 - 1) = Lib.repeatL [48] (s + 1 - 1) ++ [48] := by
        show Lib.repeatL [48] (s + 1) = Lib.repeatL [48] s ++ _
        rw [Lib.repeatL_add, Lib.repeatL_one]
      rw [e3]; rfl
    · have e1 : Lib.nDigits c = Lib.nDigits (c / 10) + 1 := Lib.nDigits_big h
      have e2 : Lib.decDigits c = Lib.decDigits (c / 10) ++ [dgc (c % 10)] := by rw [Lib.decDigits, dif_neg h]; rfl
      have e3 : s + 1 + 1 - (Lib.nDigits (c / 10) + 1) = s + 1 - Lib.nDigits (c / 10) := by omega
      rw [e1, e2, e3, List.append_assoc]
/-- A number's text: the digits ahead, the mark, the digits behind. -/
theorem wr_low (c s : Nat) (mark : List UInt8) : wr c s (str mark) = str (Lib.decDigits (sh c s) ++ (mark ++ low c s)) := by
  have hps : (pad c s).size = (Lib.decDigits (sh c s)).length + s := by rw [← size_list, pad_low, List.length_append, low_length]
  refine ba_eq ?_
  rw [wr, cat_list, cat_list, ext_list, ext_list, str_list, str_list, pad_low, hps, Nat.add_sub_cancel, List.drop_zero, List.take_left]
  congr 2
  rw [List.take_of_length_le (by rw [List.length_append, low_length]; exact Nat.le_refl _), List.drop_left]
theorem dec_len (c s : Nat) (hc : c < 1000000000000000000) : (Lib.decDigits (sh c s)).length ≤ 18 := by
  rw [Lib.decDigits_length]
  exact nDigits_le 17 _ (Nat.lt_of_le_of_lt (sh_le c s) hc)

def LowInv (w : World) (b c s : Nat) (t6 t7 t8 : Value) (wr : World) : Prop :=
  ∃ (i d : Nat) (o : ByteArray), i ≤ s ∧ d = sh c i ∧ o = str (low c i) ∧ t6 = .string o ∧ t7 = .int .i64 d ∧ t8 = .int .i64 i ∧ BoxNum wr b false c s ∧ Below w.heap.size w wr

def HighInv (w : World) (X : List UInt8) (t6 t7 : Value) (wr : World) : Prop :=
  ∃ (d : Nat) (o : ByteArray), dec0 d ++ o.data.toList = X ∧ d < 1000000000000000000 ∧ t6 = .string o ∧ t7 = .int .i64 d ∧ Below w.heap.size w wr

set_option maxRecDepth 100000 in
set_option maxHeartbeats 2000000 in
theorem refText_mt (c s : Nat) (w : World) (ha : goodB false c s = true) :
    Calls Tryd.prog 14 #[.agg #[.bool false, .int .i64 c, .int .i64 s], .bool true] w fun e w' => e = .returned (.tuple #[.string (mtN false c s).1, .int .i64 0]) ∧ Below w.heap.size w w' := by
  have HA := hid ha
  obtain ⟨d0, d1, _, k5, _⟩ := goodB_parts ha
  have HR : Hid ((mtN false c s).1 = str (Lib.decDigits (sh c s) ++ ([44] ++ low c s))) := by
    show _ = _
    rw [mtN, txt_good ha]
    exact wr_low c s [44]
  have HLEN : Hid ((Lib.decDigits (sh c s) ++ ([44] ++ low c s)).length ≤ 30) := by
    have := dec_len c s (by omega)
    show _ ≤ _
    simp only [List.length_append, low_length, List.length_cons, List.length_nil]
    omega
  clear ha
  go_enter Tryd.func14, Tryd.ntmps14
  go_wp2_with fail
  with_reducible refine (refGood_any _ _ _ _).mono ?_
  rintro e w1 ⟨rfl, h1⟩
  rw [HA.out]
  have A1 := hid ((BoxNum.new w false c s 24).below h1)
  have b1 := hid (((Below.refl _ w).alloc (Nat.le_refl _) (.cells #[.bool false, .int .i64 c, .int .i64 s] 24)).trans (h1.mono (by simp)))
  clear h1
  obtain ⟨hz, a0, a1, a2⟩ := A1.out
  go_wp2_with fail
  go_loopw [6, 7, 8] (fun t6 t7 t8 wr => LowInv w w.heap.size c s t6 t7 t8 wr) (fun _ _ t8 _ => s - (intOf t8).toNat)
  case atStart => exact ⟨0, c, _, Nat.zero_le _, (sh_zero c).symm, rfl, rfl, rfl, rfl, A1.out, b1.out⟩
  case round =>
    clear hz a0 a1 a2 A1 b1
    obtain ⟨i, d, o, hi, hd, ho, rfl, rfl, rfl, hA, hb⟩ := hrel
    have HD := hid hd
    have HO := hid ho
    have hdc := sh_le c i
    rw [← hd] at hdc
    have KA := hid hA
    clear hd
    have hos : o.size ≤ 20 := by rw [ho, str_size, low_length]; omega
    clear ho
    obtain ⟨hz, a0, a1, a2⟩ := hA
    by_cases hlt : i < s
    · go_wp2_with fail
      rw [conv_digit]
      obtain ⟨q, hq⟩ : ∃ q, q = str [dgc (d % 10)] := ⟨_, rfl⟩
      have hq1 : q.size ≤ 20 := by rw [hq, str_size]; exact Nat.le_of_ble_eq_true rfl
      rw [← hq]
      have HQ := hid hq
      clear hq
      go_wp2_with fail
      go_roundw
      case rel =>
        refine ⟨i + 1, d / 10, q ++ o, by omega, by rw [sh_succ, ← HD.out], ?_, rfl, by go_num, by go_num, KA.out.alloc _, hb.alloc hb.size _⟩
        rw [HQ.out, HO.out, str_app, low, ← HD.out]; rfl
      case measure => simp [intOf]; omega
    · obtain rfl : i = s := by omega
      go_wp2_with fail
      rw [conv_digit]
      obtain ⟨q, hq⟩ : ∃ q, q = str [dgc (d % 10)] := ⟨_, rfl⟩
      have hq1 : q.size ≤ 20 := by rw [hq, str_size]; exact Nat.le_of_ble_eq_true rfl
      rw [← hq]
      have HQ := hid hq
      clear hq
      go_wp2_with fail
      go_loopw [6, 7] (fun t6 t7 wr => HighInv w (Lib.decDigits (sh c i) ++ ([44] ++ low c i)) t6 t7 wr) (fun _ t7 _ => (intOf t7).toNat)
      case atStart =>
        refine ⟨d / 10, _, ?_, by omega, rfl, by go_num, hb.alloc hb.size _⟩
        rw [← HD.out, HQ.out, HO.out]
        rw [show (⟨#[44]⟩ : ByteArray) = str [44] from rfl, str_app, str_app]
        rw [str_list, ← dec0_step d]
        simp
      case round =>
        clear hz a0 a1 a2
        obtain ⟨d2, o2, hX, hd2, rfl, rfl, hb2⟩ := hrel
        have hos2 : o2.size ≤ 30 := by
          have h1 := HLEN.out
          rw [← hX, List.length_append, size_list] at h1
          omega
        have HXX := hid hX
        clear hX
        by_cases hz2 : d2 = 0
        · subst hz2
          go_wp2_with fail
          go_returns
          refine ⟨?_, hb2⟩
          have hX := HXX.out
          rw [HR.out, ← hX, dec0, if_pos rfl]
          rfl
        · have HZ2 := hid hz2
          have hz3 : 0 < d2 := by omega
          clear hz2
          go_wp2_with fail
          rw [conv_digit]
          obtain ⟨q2, hq2⟩ : ∃ q, q = str [dgc (d2 % 10)] := ⟨_, rfl⟩
          have hq3 : q2.size ≤ 20 := by rw [hq2, str_size]; exact Nat.le_of_ble_eq_true rfl
          rw [← hq2]
          have HQ2 := hid hq2
          clear hq2
          go_wp2_with fail
          go_roundw
          case rel =>
            refine ⟨d2 / 10, q2 ++ o2, ?_, by omega, rfl, by go_num, hb2.alloc hb2.size _⟩
            rw [← HXX.out, HQ2.out, dec0_pos HZ2.out]
            simp [str]
          case measure => simp [intOf]; omega

set_option maxRecDepth 100000 in
set_option maxHeartbeats 2000000 in
theorem refText_xml (c s : Nat) (w : World) (ha : goodB false c s = true) (h0 : 0 < s) :
    Calls Tryd.prog 14 #[.agg #[.bool false, .int .i64 c, .int .i64 s], .bool false] w fun e w' => e = .returned (.tuple #[.string (xmlN false c s).1, .int .i64 0]) ∧ Below w.heap.size w w' := by
  have HA := hid ha
  obtain ⟨d0, d1, _, k5, _⟩ := goodB_parts ha
  have HR : Hid ((xmlN false c s).1 = str (Lib.decDigits (sh c s) ++ ([46] ++ low c s))) := by
    show _ = _
    rw [xmlN, if_neg (by omega), txt_good ha]
    exact wr_low c s [46]
  have HLEN : Hid ((Lib.decDigits (sh c s) ++ ([46] ++ low c s)).length ≤ 30) := by
    have := dec_len c s (by omega)
    show _ ≤ _
    simp only [List.length_append, low_length, List.length_cons, List.length_nil]
    omega
  clear ha
  go_enter Tryd.func14, Tryd.ntmps14
  go_wp2_with fail
  with_reducible refine (refGood_any _ _ _ _).mono ?_
  rintro e w1 ⟨rfl, h1⟩
  rw [HA.out]
  have A1 := hid ((BoxNum.new w false c s 24).below h1)
  have b1 := hid (((Below.refl _ w).alloc (Nat.le_refl _) (.cells #[.bool false, .int .i64 c, .int .i64 s] 24)).trans (h1.mono (by simp)))
  clear h1
  obtain ⟨hz, a0, a1, a2⟩ := A1.out
  go_wp2_with fail
  go_loopw [6, 7, 8] (fun t6 t7 t8 wr => LowInv w w.heap.size c s t6 t7 t8 wr) (fun _ _ t8 _ => s - (intOf t8).toNat)
  case atStart => exact ⟨0, c, _, Nat.zero_le _, (sh_zero c).symm, rfl, rfl, rfl, rfl, A1.out, b1.out⟩
  case round =>
    clear hz a0 a1 a2 A1 b1
    obtain ⟨i, d, o, hi, hd, ho, rfl, rfl, rfl, hA, hb⟩ := hrel
    have HD := hid hd
    have HO := hid ho
    have hdc := sh_le c i
    rw [← hd] at hdc
    have KA := hid hA
    clear hd
    have hos : o.size ≤ 20 := by rw [ho, str_size, low_length]; omega
    clear ho
    obtain ⟨hz, a0, a1, a2⟩ := hA
    by_cases hlt : i < s
    · go_wp2_with fail
      rw [conv_digit]
      obtain ⟨q, hq⟩ : ∃ q, q = str [dgc (d % 10)] := ⟨_, rfl⟩
      have hq1 : q.size ≤ 20 := by rw [hq, str_size]; exact Nat.le_of_ble_eq_true rfl
      rw [← hq]
      have HQ := hid hq
      clear hq
      go_wp2_with fail
      go_roundw
      case rel =>
        refine ⟨i + 1, d / 10, q ++ o, by omega, by rw [sh_succ, ← HD.out], ?_, rfl, by go_num, by go_num, KA.out.alloc _, hb.alloc hb.size _⟩
        rw [HQ.out, HO.out, str_app, low, ← HD.out]; rfl
      case measure => simp [intOf]; omega
    · obtain rfl : i = s := by omega
      go_wp2_with fail
      rw [conv_digit]
      obtain ⟨q, hq⟩ : ∃ q, q = str [dgc (d % 10)] := ⟨_, rfl⟩
      have hq1 : q.size ≤ 20 := by rw [hq, str_size]; exact Nat.le_of_ble_eq_true rfl
      rw [← hq]
      have HQ := hid hq
      clear hq
      go_wp2_with fail
      go_loopw [6, 7] (fun t6 t7 wr => HighInv w (Lib.decDigits (sh c i) ++ ([46] ++ low c i)) t6 t7 wr) (fun _ t7 _ => (intOf t7).toNat)
      case atStart =>
        refine ⟨d / 10, _, ?_, by omega, rfl, by go_num, hb.alloc hb.size _⟩
        rw [← HD.out, HQ.out, HO.out]
        rw [show (⟨#[46]⟩ : ByteArray) = str [46] from rfl, str_app, str_app]
        rw [str_list, ← dec0_step d]
        simp
      case round =>
        clear hz a0 a1 a2
        obtain ⟨d2, o2, hX, hd2, rfl, rfl, hb2⟩ := hrel
        have hos2 : o2.size ≤ 30 := by
          have h1 := HLEN.out
          rw [← hX, List.length_append, size_list] at h1
          omega
        have HXX := hid hX
        clear hX
        by_cases hz2 : d2 = 0
        · subst hz2
          go_wp2_with fail
          go_returns
          refine ⟨?_, hb2⟩
          have hX := HXX.out
          rw [HR.out, ← hX, dec0, if_pos rfl]
          rfl
        · have HZ2 := hid hz2
          have hz3 : 0 < d2 := by omega
          clear hz2
          go_wp2_with fail
          rw [conv_digit]
          obtain ⟨q2, hq2⟩ : ∃ q, q = str [dgc (d2 % 10)] := ⟨_, rfl⟩
          have hq3 : q2.size ≤ 20 := by rw [hq2, str_size]; exact Nat.le_of_ble_eq_true rfl
          rw [← hq2]
          have HQ2 := hid hq2
          clear hq2
          go_wp2_with fail
          go_roundw
          case rel =>
            refine ⟨d2 / 10, q2 ++ o2, ?_, by omega, rfl, by go_num, hb2.alloc hb2.size _⟩
            rw [← HXX.out, HQ2.out, dec0_pos HZ2.out]
            simp [str]
          case measure => simp [intOf]; omega

set_option maxRecDepth 100000 in
set_option maxHeartbeats 2000000 in
theorem refText_xml0 (c : Nat) (w : World) (ha : goodB false c 0 = true) :
    Calls Tryd.prog 14 #[.agg #[.bool false, .int .i64 c, .int .i64 0], .bool false] w fun e w' => e = .returned (.tuple #[.string (xmlN false c 0).1, .int .i64 0]) ∧ Below w.heap.size w w' := by
  have HA := hid ha
  obtain ⟨d0, d1, _, k5, _⟩ := goodB_parts ha
  have HR : Hid ((xmlN false c 0).1 = str (Lib.decDigits (sh c 0) ++ ([] ++ low c 0))) := by
    show _ = _
    rw [xmlN, if_pos rfl]
    have := txt_good (s := 0) (mark := ⟨#[]⟩) ha
    exact (congrArg (·.1) this).trans (wr_low c 0 [])
  have HLEN : Hid ((Lib.decDigits (sh c 0) ++ ([] ++ low c 0)).length ≤ 30) := by
    have := dec_len c 0 (by omega)
    show _ ≤ _
    simp only [List.length_append, low_length, List.length_nil]
    omega
  clear ha
  go_enter Tryd.func14, Tryd.ntmps14
  go_wp2_with fail
  with_reducible refine (refGood_any _ _ _ _).mono ?_
  rintro e w1 ⟨rfl, h1⟩
  rw [HA.out]
  have A1 := hid ((BoxNum.new w false c 0 24).below h1)
  have b1 := hid (((Below.refl _ w).alloc (Nat.le_refl _) (.cells #[.bool false, .int .i64 c, .int .i64 0] 24)).trans (h1.mono (by simp)))
  clear h1
  obtain ⟨hz, a0, a1, a2⟩ := A1.out
  go_wp2_with fail
  go_loopw [6, 7, 8] (fun t6 t7 t8 wr => LowInv w w.heap.size c 0 t6 t7 t8 wr) (fun _ _ t8 _ => 0 - (intOf t8).toNat)
  case atStart => exact ⟨0, c, _, Nat.zero_le _, (sh_zero c).symm, rfl, rfl, rfl, rfl, A1.out, b1.out⟩
  case round =>
    clear hz a0 a1 a2 A1 b1
    obtain ⟨i, d, o, hi, hd, ho, rfl, rfl, rfl, hA, hb⟩ := hrel
    have HD := hid hd
    have HO := hid ho
    have hdc := sh_le c i
    rw [← hd] at hdc
    have KA := hid hA
    clear hd
    have hos : o.size ≤ 20 := by rw [ho, str_size, low_length]; omega
    clear ho
    obtain ⟨hz, a0, a1, a2⟩ := hA
    by_cases hlt : i < 0
    · exact absurd hlt (by omega)
    · obtain rfl : i = 0 := by omega
      replace a2 : wr.cell? ⟨w.heap.size, 2, none⟩ = some (.int .i64 0) := a2
      go_wp2_with fail
      rw [conv_digit]
      obtain ⟨q, hq⟩ : ∃ q, q = str [dgc (d % 10)] := ⟨_, rfl⟩
      have hq1 : q.size ≤ 20 := by rw [hq, str_size]; exact Nat.le_of_ble_eq_true rfl
      rw [← hq]
      have HQ := hid hq
      clear hq
      go_wp2_with fail
      go_loopw [6, 7] (fun t6 t7 wr => HighInv w (Lib.decDigits (sh c 0) ++ ([] ++ low c 0)) t6 t7 wr) (fun _ t7 _ => (intOf t7).toNat)
      case atStart =>
        refine ⟨d / 10, _, ?_, by omega, rfl, by go_num, hb.alloc hb.size _⟩
        rw [← HD.out, HQ.out, HO.out]
        rw [str_app]
        rw [str_list, ← dec0_step d]
        simp
      case round =>
        clear hz a0 a1 a2
        obtain ⟨d2, o2, hX, hd2, rfl, rfl, hb2⟩ := hrel
        have hos2 : o2.size ≤ 30 := by
          have h1 := HLEN.out
          rw [← hX, List.length_append, size_list] at h1
          omega
        have HXX := hid hX
        clear hX
        by_cases hz2 : d2 = 0
        · subst hz2
          go_wp2_with fail
          go_returns
          refine ⟨?_, hb2⟩
          have hX := HXX.out
          rw [HR.out, ← hX, dec0, if_pos rfl]
          rfl
        · have HZ2 := hid hz2
          have hz3 : 0 < d2 := by omega
          clear hz2
          go_wp2_with fail
          rw [conv_digit]
          obtain ⟨q2, hq2⟩ : ∃ q, q = str [dgc (d2 % 10)] := ⟨_, rfl⟩
          have hq3 : q2.size ≤ 20 := by rw [hq2, str_size]; exact Nat.le_of_ble_eq_true rfl
          rw [← hq2]
          have HQ2 := hid hq2
          clear hq2
          go_wp2_with fail
          go_roundw
          case rel =>
            refine ⟨d2 / 10, q2 ++ o2, ?_, by omega, rfl, by go_num, hb2.alloc hb2.size _⟩
            rw [← HXX.out, HQ2.out, dec0_pos HZ2.out]
            simp [str]
          case measure => simp [intOf]; omega

set_option maxRecDepth 100000 in
set_option maxHeartbeats 1000000 in
theorem refText_bad (g b : Bool) (c s : Int) (w : World) (hg : goodB g c s = false ∨ g = true) :
    Calls Tryd.prog 14 #[.agg #[.bool g, .int .i64 c, .int .i64 s], .bool b] w fun e w' => e = .returned (.tuple #[.string ⟨#[]⟩, .int .i64 1]) ∧ Below w.heap.size w w' := by
  have HG := hid hg
  clear hg
  cases hG : goodB g c s
  · have HG2 := hid hG
    clear hG
    go_enter Tryd.func14, Tryd.ntmps14
    go_wp2_with fail
    with_reducible refine (refGood_any _ _ _ _).mono ?_
    rintro e w1 ⟨rfl, h1⟩
    rw [HG2.out]
    have b1 : Below w.heap.size w w1 := ((Below.refl _ _).alloc (Nat.le_refl _) _).trans (h1.mono (by simp))
    go_wp2
    go_returns
    exact ⟨rfl, b1⟩
  · obtain rfl : g = true := by
      rcases HG.out with h | h
      · rw [hG] at h; cases h
      · exact h
    have HG2 := hid hG
    clear hG HG
    go_enter Tryd.func14, Tryd.ntmps14
    go_wp2_with fail
    with_reducible refine (refGood_any _ _ _ _).mono ?_
    rintro e w1 ⟨rfl, h1⟩
    rw [HG2.out]
    have A1 := (BoxNum.new w true c s 24).below h1
    have b1 : Below w.heap.size w w1 := ((Below.refl _ _).alloc (Nat.le_refl _) _).trans (h1.mono (by simp))
    obtain ⟨hz1, a0, a1, a2⟩ := A1
    go_wp2
    go_returns
    exact ⟨rfl, b1⟩

theorem refText_mt_any (g : Bool) (c s : Int) (w : World) :
    Calls Tryd.prog 14 #[.agg #[.bool g, .int .i64 c, .int .i64 s], .bool true] w fun e w' => e = .returned (.tuple #[.string (mtN g c s).1, .int .i64 (mtN g c s).2]) ∧ Below w.heap.size w w' := by
  cases hG : goodB g c s
  · rw [mtN, txt, hG]
    exact refText_bad g true c s w (.inl hG)
  · cases g
    · obtain ⟨h0, _, h2, _⟩ := goodB_parts hG
      obtain ⟨c, rfl⟩ : ∃ n : Nat, c = n := ⟨c.toNat, by omega⟩
      obtain ⟨s, rfl⟩ : ∃ n : Nat, s = n := ⟨s.toNat, by omega⟩
      have := refText_mt c s w hG
      rw [← (mt_back hG).1] at this
      exact this
    · rw [mtN, txt, hG]
      exact refText_bad true true c s w (.inr rfl)
theorem refText_xml_any (g : Bool) (c s : Int) (w : World) :
    Calls Tryd.prog 14 #[.agg #[.bool g, .int .i64 c, .int .i64 s], .bool false] w fun e w' => e = .returned (.tuple #[.string (xmlN g c s).1, .int .i64 (xmlN g c s).2]) ∧ Below w.heap.size w w' := by
  cases hG : goodB g c s
  · rw [xmlN, txt, hG]
    exact refText_bad g false c s w (.inl hG)
  · cases g
    · obtain ⟨h0, _, h2, _⟩ := goodB_parts hG
      obtain ⟨c, rfl⟩ : ∃ n : Nat, c = n := ⟨c.toNat, by omega⟩
      by_cases hs : s = 0
      · subst hs
        have h1 : (xmlN false c 0).2 = 0 := (xml_back (s := 0) hG).1
        rw [h1]
        exact refText_xml0 c w hG
      · obtain ⟨s, rfl⟩ : ∃ n : Nat, s = n := ⟨s.toNat, by omega⟩
        have := refText_xml c s w hG (by omega)
        rw [← (xml_back hG).1] at this
        exact this
    · rw [xmlN, txt, hG]
      exact refText_bad true false c s w (.inr rfl)

/-- What Least tells. -/
def leastV (g : Bool) (c s : Int) : Int × Int := if goodB g c s then ((lst s.toNat c).1, ((lst s.toNat c).2 : Int)) else (c, s)
theorem least_any (g : Bool) (c s : Int) (w : World) :
    Calls Tryd.prog 19 #[.agg #[.bool g, .int .i64 c, .int .i64 s]] w fun e w' => e = .returned (.agg #[.bool g, .int .i64 (leastV g c s).1, .int .i64 (leastV g c s).2]) ∧ Below w.heap.size w w' := by
  cases hG : goodB g c s
  · rw [leastV, hG]
    exact least_bad g c s w hG
  · rw [leastV, hG]
    obtain ⟨_, _, h2, _⟩ := goodB_parts hG
    obtain ⟨s, rfl⟩ : ∃ n : Nat, s = n := ⟨s.toNat, by omega⟩
    exact least_good g c s w hG
theorem refLeast_any (g : Bool) (c s : Int) (w : World) :
    Calls Tryd.prog 20 #[.agg #[.bool g, .int .i64 c, .int .i64 s]] w fun e w' => e = .returned (.agg #[.bool g, .int .i64 (leastV g c s).1, .int .i64 (leastV g c s).2]) ∧ Below w.heap.size w w' := by
  cases hG : goodB g c s
  · rw [leastV, hG]
    exact refLeast_bad g c s w hG
  · rw [leastV, hG]
    obtain ⟨_, _, h2, _⟩ := goodB_parts hG
    obtain ⟨s, rfl⟩ : ∃ n : Nat, s = n := ⟨s.toNat, by omega⟩
    exact refLeast_good g c s w hG
end Go.Proofs.YtfiifppmpehncaaDoor
