/-
  The program's contracts for bank codes.
-/
import Derived.Test.YtfelomakgdplfaaBcQ
import Derived.Test.YtfelomakgdplfaaShelf
namespace Go.Proofs.Ytfelomakgdplfaa
open Go.RowKit

theorem bic_of_size {s : ByteArray} (h : s.size = 8 ∨ s.size = 11) : bicV s.data.toList = shapeV s.data.toList s.size := by
  have hl : s.data.toList.length = s.size := by simp
  rcases h with h | h
  · have : shapeV s.data.toList 11 = false := by
      rw [← Bool.not_eq_true, shapeV_iff]; exact fun e => by omega
    rw [bicV, this, Bool.or_false, h]
  · have : shapeV s.data.toList 8 = false := by
      rw [← Bool.not_eq_true, shapeV_iff]; exact fun e => by omega
    rw [bicV, this, Bool.false_or, h]

set_option maxHeartbeats 1000000 in
theorem biccheck_any (s : ByteArray) (_hs : s.size ≤ 1000) (w : World) :
    Calls Try.prog 13 #[.string s] w fun e w' => e = .returned (.int .i64 (errB (bicV s.data.toList))) ∧ Below w.heap.size w w' := by
  by_cases h : s.size = 8 ∨ s.size = 11
  · rw [bic_of_size h]
    exact biccheck_8 s h w
  · have hl : s.data.toList.length = s.size := by simp
    have hno : bicV s.data.toList = false := by
      rw [← Bool.not_eq_true, bicV_iff]
      exact fun e => by omega
    rw [hno]
    have b8 : ((s.size : Int) != 8) = true := by rw [bne_iff_ne]; omega
    have b11 : ((s.size : Int) != 11) = true := by rw [bne_iff_ne]; omega
    clear h hno hl
    go_enter Try.func13, Try.ntmps13
    go_wp2
    go_returns
    exact ⟨rfl, Below.refl _ _⟩

/-- A text without its ninth byte. -/
def unS (s : ByteArray) : ByteArray := s.extract 0 8 ++ s.extract 9 s.size
theorem un_lst (s : ByteArray) : (unS s).data.toList = s.data.toList.take 8 ++ s.data.toList.drop 9 := by
  rw [unS, ByteArray.data_append, Array.toList_append, ext_lst, ext_lst, List.drop_zero, take_all]
theorem un_size {s : ByteArray} (h : s.size = 12) : (unS s).size = 11 := by
  have := congrArg List.length (un_lst s)
  simp at this
  omega
theorem addr_split {s : ByteArray} (h : s.size = 12) : addrV s.data.toList = (ibOk s[8] && bicV (unS s).data.toList) := by
  have hl : s.data.toList.length = 12 := by simpa using h
  have e8 : s.data.toList.drop 8 = s[8] :: s.data.toList.drop 9 := List.drop_eq_getElem_cons (by omega)
  have ea : s.data.toList.all ibOk = ((s.data.toList.take 8).all ibOk && (ibOk s[8] && (s.data.toList.drop 9).all ibOk)) := by
    conv => lhs; rw [← List.take_append_drop 8 s.data.toList, List.all_append, e8, List.all_cons]
  have hu : (s.data.toList.take 8 ++ s.data.toList.drop 9).length = 11 := by simp; omega
  rw [Bool.eq_iff_iff, Bool.and_eq_true, addrV, shapeV_iff, bicV_iff, un_lst, hu, getD_app (by simp; omega), getD_app (by simp; omega), getD_take (by omega), getD_take (by omega), ea, List.all_append]
  simp only [Bool.and_eq_true]
  constructor
  · rintro ⟨_, ⟨h1, h2, h3⟩, h4⟩
    exact ⟨h2, .inr trivial, ⟨h1, h3⟩, h4⟩
  · rintro ⟨h2, _, ⟨h1, h3⟩, h4⟩
    exact ⟨hl, ⟨h1, h2, h3⟩, h4⟩

set_option maxHeartbeats 1000000 in
theorem unterm_any (s : ByteArray) (hs : s.size = 12) (w : World) :
    Calls Try.prog 19 #[.string s] w fun e w' => e = .returned (.string (unS s)) ∧ Below w.heap.size w w' := by
  have h9 : (9 : Int) ≤ s.size := by omega
  have h8 : (8 : Int) ≤ s.size := by omega
  have n9 : 9 ≤ s.size := by omega
  have n8 : 8 ≤ s.size := by omega
  have z1 : (s.extract 0 8).size = 8 := by rw [ByteArray.size_extract]; omega
  have z2 : (s.extract 9 s.size).size = 3 := by rw [ByteArray.size_extract]; omega
  clear hs
  go_enter Try.func19, Try.ntmps19
  go_wp2
  go_quiet (fail)
  go_wp2
  go_returns
  exact ⟨rfl, ib_below_drewN (Below.refl _ _) nq⟩

set_option maxHeartbeats 1000000 in
theorem bicaddr_any (s : ByteArray) (hs : s.size ≤ 1000) (w : World) :
    Calls Try.prog 14 #[.string s] w fun e w' => e = .returned (.int .i64 (errB (addrV s.data.toList))) ∧ Below w.heap.size w w' := by
  by_cases h : s.size = 12
  · have b12 : ((s.size : Int) != 12) = false := by rw [h]; rfl
    have h8 : 8 < s.size := by omega
    have B1 := hid (fun w' => has_p s[8] w')
    rw [addr_split h]
    cases ho : ibOk s[8]
    · rw [ho] at B1
      clear ho h
      go_enter Try.func14, Try.ntmps14
      go_wp2_with (go_at_call 22; refine (B1.out _).mono ?_; rintro e w' ⟨rfl, hw'⟩; obtain rfl := hw'.symm)
      go_returns
      exact ⟨rfl, Below.refl _ _⟩
    · rw [ho] at B1
      rw [Bool.true_and]
      have U := hid (fun w' => unterm_any s h w')
      have C := hid (fun w' => biccheck_any (unS s) (by rw [un_size h]; omega) w')
      generalize errB (bicV (unS s).data.toList) = r at C ⊢
      clear ho h hs
      go_enter Try.func14, Try.ntmps14
      go_wp2_with (go_at_call 22; refine (B1.out _).mono ?_; rintro e w' ⟨rfl, hw'⟩; obtain rfl := hw'.symm)
      refine (U.out _).mono ?_
      rintro e w1 ⟨rfl, h1⟩
      go_wp2_with fail
      refine (C.out _).mono ?_
      rintro e w2 ⟨rfl, h2⟩
      have b2 := h1.trans (h2.mono h1.size)
      clear h1 h2
      go_wp2
      go_returns
      exact ⟨rfl, b2⟩
  · have hl : s.data.toList.length = s.size := by simp
    have hno : addrV s.data.toList = false := by
      rw [← Bool.not_eq_true, addrV, shapeV_iff]
      exact fun e => by omega
    rw [hno]
    have b12 : ((s.size : Int) != 12) = true := by rw [bne_iff_ne]; omega
    clear h hno hl hs
    go_enter Try.func14, Try.ntmps14
    go_wp2
    go_returns
    exact ⟨rfl, Below.refl _ _⟩

set_option maxHeartbeats 1000000 in
theorem clone_any (s : ByteArray) (hs : s.size ≤ 1000) (w : World) :
    Calls Try.prog 18 #[.string s] w fun e w' => e = .returned (.string s) ∧ Below w.heap.size w w' := by
  have C := hid (fun w' => Try.stringslite_Clone s w' (by omega))
  go_enter Try.func18, Try.ntmps18
  go_wp2_with fail
  refine (C.out _).mono ?_
  rintro e w1 ⟨rfl, h1⟩
  go_wp2
  go_returns
  exact ⟨rfl, h1⟩

theorem xxx_lst : (⟨#[88, 88, 88]⟩ : ByteArray).toList = [88, 88, 88] := by rw [ByteArray.toList_eq]
/-- The branch of a code. -/
def brS (s : ByteArray) : ByteArray := if s.size = 8 then ⟨#[88, 88, 88]⟩ else s.extract 8 s.size
theorem br_size {s : ByteArray} (h : s.size = 8 ∨ s.size = 11) : (brS s).size = 3 := by
  rw [brS]
  split
  · rfl
  · rw [ByteArray.size_extract]; omega
set_option maxHeartbeats 1000000 in
theorem branch_any (s : ByteArray) (hs : s.size = 8 ∨ s.size = 11) (w : World) :
    Calls Try.prog 17 #[.string s] w fun e w' => e = .returned (.string (brS s)) ∧ w' = w := by
  rcases hs with h | h
  · rw [brS, if_pos h]
    have b : ((s.size : Int) == 8) = true := by rw [h]; rfl
    clear h
    go_enter Try.func17, Try.ntmps17
    go_wp2
    go_returns
    exact ⟨rfl, rfl⟩
  · rw [brS, if_neg (by omega)]
    have b : ((s.size : Int) == 8) = false := by rw [h]; rfl
    have h8 : (8 : Int) ≤ s.size := by omega
    have n8 : 8 ≤ s.size := by omega
    clear h
    go_enter Try.func17, Try.ntmps17
    go_wp2
    go_returns
    exact ⟨rfl, rfl⟩
theorem br_lst {s : ByteArray} (h : s.size = 8 ∨ s.size = 11) : s.data.toList.take 8 ++ (brS s).data.toList = fullL s.data.toList := by
  have hl : s.data.toList.length = s.size := by simp
  rw [brS, fullL, hl]
  rcases h with h | h
  · rw [if_pos h, if_pos h, List.take_of_length_le (by omega)]
  · rw [if_neg (by omega), if_neg (by omega), ext_lst, take_all, List.take_append_drop]
theorem full_br {s : ByteArray} (h : s.size = 8 ∨ s.size = 11) : s.extract 0 8 ++ brS s = fullS s := ib_str_eq (by
  rw [ByteArray.data_append, Array.toList_append, ext_lst, List.drop_zero, br_lst h, fullS])
theorem addr_br {s : ByteArray} (h : s.size = 8 ∨ s.size = 11) : s.extract 0 8 ++ ⟨#[88]⟩ ++ brS s = addrS s := ib_str_eq (by
  have e : (s.data.toList.take 8).length = 8 := by
    have hl : s.data.toList.length = s.size := by simp
    rw [List.length_take]; omega
  have e1 : (fullL s.data.toList).take 8 = s.data.toList.take 8 := by rw [← br_lst h, List.take_left' e]
  have e2 : (fullL s.data.toList).drop 8 = (brS s).data.toList := by rw [← br_lst h, List.drop_left' e]
  rw [addrS, addrL, e1, e2]
  simp only [ByteArray.data_append, Array.toList_append, ext_lst, List.drop_zero, List.append_assoc]
  rfl)
theorem short_br_yes {s : ByteArray} (h : s.size = 8 ∨ s.size = 11) (hb : brS s = ⟨#[88, 88, 88]⟩) : s.extract 0 8 = shortS s := ib_str_eq (by
  have hl : s.data.toList.length = s.size := by simp
  rw [ext_lst, List.drop_zero, shortS, shortL, hl]
  rcases h with h | h
  · rw [if_neg (by omega), List.take_of_length_le (by omega)]
  · rw [brS, if_neg (by omega)] at hb
    have hd := congrArg (fun x : ByteArray => x.data.toList) hb
    simp only [ext_lst, take_all] at hd
    rw [if_pos ⟨h, hd⟩])
theorem short_br_no {s : ByteArray} (hb : ¬ brS s = ⟨#[88, 88, 88]⟩) : s = shortS s := ib_str_eq (by
  have hl : s.data.toList.length = s.size := by simp
  rw [shortS, shortL, hl, if_neg]
  rintro ⟨h1, h2⟩
  refine hb (ib_str_eq ?_)
  rw [brS, if_neg (by omega), ext_lst, take_all, h2])
theorem len_of_bic {s : ByteArray} (h : bicV s.data.toList = true) : s.size = 8 ∨ s.size = 11 := by
  have := (bicV_iff.1 h).1
  simpa using this

set_option maxHeartbeats 1000000 in
theorem bicfull_any (s : ByteArray) (hs : s.size ≤ 1000) (w : World) :
    Calls Try.prog 7 #[.string s] w fun e w' => e = .returned (.tuple #[.string (if bicV s.data.toList then fullS s else ⟨#[]⟩), .int .i64 (errB (bicV s.data.toList))]) ∧ Below w.heap.size w w' := by
  have C := hid (fun w' => biccheck_any s hs w')
  cases hv : bicV s.data.toList
  · rw [hv, show errB false = 14 from rfl] at C
    rw [if_neg (by decide), show errB false = 14 from rfl]
    clear hv
    go_enter Try.func7, Try.ntmps7
    go_wp2_with fail
    refine (C.out _).mono ?_
    rintro e w1 ⟨rfl, h1⟩
    go_wp2
    go_returns
    exact ⟨rfl, h1⟩
  · have hl := len_of_bic hv
    rw [hv, show errB true = 0 from rfl] at C
    rw [if_pos rfl, show errB true = 0 from rfl]
    have B := hid (fun w' => branch_any s hl w')
    have HF := hid (full_br hl)
    have z1 : (s.extract 0 8).size = 8 := by rw [ByteArray.size_extract]; omega
    have z2 := br_size hl
    have n8 : (8 : Int) ≤ s.size := by omega
    have m8 : 8 ≤ s.size := by omega
    clear hv hl
    generalize brS s = b at *
    go_enter Try.func7, Try.ntmps7
    go_wp2_with fail
    refine (C.out _).mono ?_
    rintro e w1 ⟨rfl, h1⟩
    go_wp2
    go_quiet (first | (go_at_call 17; with_reducible exact Calls.quiet_of_same (B.out _)))
    go_wp2
    go_returns
    rw [HF.out]
    exact ⟨rfl, ib_below_drewN h1 nq⟩
set_option maxHeartbeats 1000000 in
theorem bicaddress_any (s : ByteArray) (hs : s.size ≤ 1000) (w : World) :
    Calls Try.prog 9 #[.string s] w fun e w' => e = .returned (.tuple #[.string (if bicV s.data.toList then addrS s else ⟨#[]⟩), .int .i64 (errB (bicV s.data.toList))]) ∧ Below w.heap.size w w' := by
  have C := hid (fun w' => biccheck_any s hs w')
  cases hv : bicV s.data.toList
  · rw [hv, show errB false = 14 from rfl] at C
    rw [if_neg (by decide), show errB false = 14 from rfl]
    clear hv
    go_enter Try.func9, Try.ntmps9
    go_wp2_with fail
    refine (C.out _).mono ?_
    rintro e w1 ⟨rfl, h1⟩
    go_wp2
    go_returns
    exact ⟨rfl, h1⟩
  · have hl := len_of_bic hv
    rw [hv, show errB true = 0 from rfl] at C
    rw [if_pos rfl, show errB true = 0 from rfl]
    have B := hid (fun w' => branch_any s hl w')
    have HF := hid (addr_br hl)
    have z1 : (s.extract 0 8).size = 8 := by rw [ByteArray.size_extract]; omega
    have z3 : (s.extract 0 8 ++ ⟨#[88]⟩).size = 9 := by rw [ByteArray.size_append, z1]; rfl
    have z4 : (⟨#[88]⟩ : ByteArray).size = 1 := rfl
    have z2 := br_size hl
    have n8 : (8 : Int) ≤ s.size := by omega
    have m8 : 8 ≤ s.size := by omega
    clear hv hl
    generalize brS s = b at *
    go_enter Try.func9, Try.ntmps9
    go_wp2_with fail
    refine (C.out _).mono ?_
    rintro e w1 ⟨rfl, h1⟩
    go_wp2
    go_quiet (first | (go_at_call 17; with_reducible exact Calls.quiet_of_same (B.out _)))
    go_wp2
    go_returns
    rw [HF.out]
    exact ⟨rfl, ib_below_drewN h1 nq⟩
set_option maxHeartbeats 1000000 in
theorem bicshort_any (s : ByteArray) (hs : s.size ≤ 1000) (w : World) :
    Calls Try.prog 8 #[.string s] w fun e w' => e = .returned (.tuple #[.string (if bicV s.data.toList then shortS s else ⟨#[]⟩), .int .i64 (errB (bicV s.data.toList))]) ∧ Below w.heap.size w w' := by
  have C := hid (fun w' => biccheck_any s hs w')
  cases hv : bicV s.data.toList
  · rw [hv, show errB false = 14 from rfl] at C
    rw [if_neg (by decide), show errB false = 14 from rfl]
    clear hv
    go_enter Try.func8, Try.ntmps8
    go_wp2_with fail
    refine (C.out _).mono ?_
    rintro e w1 ⟨rfl, h1⟩
    go_wp2
    go_returns
    exact ⟨rfl, h1⟩
  · have hl := len_of_bic hv
    rw [hv, show errB true = 0 from rfl] at C
    rw [if_pos rfl, show errB true = 0 from rfl]
    have B := hid (fun w' => branch_any s hl w')
    by_cases hb : brS s = ⟨#[88, 88, 88]⟩
    · have hq : ((brS s).toList == [88, 88, 88]) = true := by rw [← xxx_lst]; exact toList_yes hb
      have HF := hid (short_br_yes hl hb)
      have K := hid (fun w' => clone_any (s.extract 0 8) (by rw [ByteArray.size_extract]; omega) w')
      have n8 : (8 : Int) ≤ s.size := by omega
      have m8 : 8 ≤ s.size := by omega
      clear hv hl hb
      generalize brS s = b at *
      go_enter Try.func8, Try.ntmps8
      go_wp2_with fail
      refine (C.out _).mono ?_
      rintro e w1 ⟨rfl, h1⟩
      go_wp2_with fail
      refine (B.out _).mono ?_
      rintro e w2 ⟨rfl, hw⟩
      obtain rfl := hw.symm
      go_wp2_with fail
      refine (K.out _).mono ?_
      rintro e w3 ⟨rfl, h3⟩
      have b3 := h1.trans (h3.mono h1.size)
      clear h1 h3
      go_wp2
      go_returns
      rw [HF.out]
      exact ⟨rfl, b3⟩
    · have hq : ((brS s).toList == [88, 88, 88]) = false := by rw [← xxx_lst]; exact toList_no hb
      have HF := hid (short_br_no hb)
      have K := hid (fun w' => clone_any s hs w')
      clear hv hl hb
      generalize brS s = b at *
      generalize shortS s = r at *
      go_enter Try.func8, Try.ntmps8
      go_wp2_with fail
      refine (C.out _).mono ?_
      rintro e w1 ⟨rfl, h1⟩
      go_wp2_with fail
      refine (B.out _).mono ?_
      rintro e w2 ⟨rfl, hw⟩
      obtain rfl := hw.symm
      go_wp2_with fail
      refine (K.out _).mono ?_
      rintro e w3 ⟨rfl, h3⟩
      have b3 := h1.trans (h3.mono h1.size)
      clear h1 h3
      go_wp2
      go_returns
      rw [← HF.out]
      exact ⟨rfl, b3⟩
theorem of_short {s : ByteArray} : shortS (unS s) = ofS s := ib_str_eq (by
  rw [shortS, ofS, ofL, un_lst])
set_option maxHeartbeats 1000000 in
theorem bicof_any (s : ByteArray) (hs : s.size ≤ 1000) (w : World) :
    Calls Try.prog 10 #[.string s] w fun e w' => e = .returned (.tuple #[.string (if addrV s.data.toList then ofS s else ⟨#[]⟩), .int .i64 (errB (addrV s.data.toList))]) ∧ Below w.heap.size w w' := by
  have C := hid (fun w' => bicaddr_any s hs w')
  cases hv : addrV s.data.toList
  · rw [hv, show errB false = 14 from rfl] at C
    rw [if_neg (by decide), show errB false = 14 from rfl]
    clear hv
    go_enter Try.func10, Try.ntmps10
    go_wp2_with fail
    refine (C.out _).mono ?_
    rintro e w1 ⟨rfl, h1⟩
    go_wp2
    go_returns
    exact ⟨rfl, h1⟩
  · have hl : s.size = 12 := by
      have := (shapeV_iff.1 (by rw [← addrV]; exact hv)).1
      simpa using this
    have hu : bicV (unS s).data.toList = true := by
      rw [addr_split hl, Bool.and_eq_true] at hv; exact hv.2
    rw [hv, show errB true = 0 from rfl] at C
    rw [if_pos rfl, show errB true = 0 from rfl, ← of_short]
    have U := hid (fun w' => unterm_any s hl w')
    have K := hid (fun w' => bicshort_any (unS s) (by rw [un_size hl]; omega) w')
    rw [hu, if_pos rfl, show errB true = 0 from rfl] at K
    clear hv hl hu hs
    generalize unS s = u at *
    go_enter Try.func10, Try.ntmps10
    go_wp2_with fail
    refine (C.out _).mono ?_
    rintro e w1 ⟨rfl, h1⟩
    go_wp2_with fail
    refine (U.out _).mono ?_
    rintro e w2 ⟨rfl, h2⟩
    have b2 := h1.trans (h2.mono h1.size)
    clear h1 h2
    go_wp2_with fail
    refine (K.out _).mono ?_
    rintro e w3 ⟨rfl, h3⟩
    have b3 := b2.trans (h3.mono b2.size)
    clear b2 h3
    go_wp2
    go_returns
    exact ⟨rfl, b3⟩
end Go.Proofs.Ytfelomakgdplfaa
