/-
  The document's own answers for bank codes.
-/
import Derived.Test.YtfelomakgdplfaaByt
import Derived.Test.YtfelomakgdplfaaBcN
namespace Go.Proofs.Ytfelomakgdplfaa
open Go.RowKit

set_option maxHeartbeats 400000 in
theorem refletter_num (n : Nat) (w : World) :
    Calls Try.prog 25 #[.int .u8 n] w fun e w' => e = .returned (.bool (decide (65 ≤ n) && decide (n ≤ 90))) ∧ w' = w := by
  by_cases h1 : 65 ≤ n
  · rw [decide_eq_true h1, Bool.true_and]
    go_enter Try.func25, Try.ntmps25
    go_wp2
    go_returns
    exact ⟨congrArg (fun b => Ending.returned (Value.bool b)) (decide_eq_decide.2 (by omega)), rfl⟩
  · rw [decide_eq_false h1, Bool.false_and]
    go_enter Try.func25, Try.ntmps25
    go_wp2
    go_returns
    exact ⟨rfl, rfl⟩
theorem refletter_any (c : UInt8) (w : World) :
    Calls Try.prog 25 #[.int .u8 c.toNat] w fun e w' => e = .returned (.bool (ibLt c)) ∧ w' = w := refletter_num _ w

set_option maxHeartbeats 400000 in
theorem refboth_any (c : UInt8) (w : World) :
    Calls Try.prog 24 #[.int .u8 c.toNat] w fun e w' => e = .returned (.bool (ibOk c)) ∧ w' = w := by
  rcases ib_three c with ⟨e1, e2, -, -⟩ | ⟨e1, -, e3, h1, h2⟩ | ⟨e1, e2, e3⟩
  · rw [e2]
    have E1 := hid e1
    clear e1 e2
    go_enter Try.func24, Try.ntmps24
    go_wp2_with (go_at_call 25; with_reducible refine (refletter_num _ _).mono ?_; rintro e w' ⟨rfl, hw'⟩; obtain rfl := hw'.symm; rw [E1.out])
    go_returns
    exact ⟨rfl, rfl⟩
  · rw [e3]
    have E1 := hid e1
    clear e1 e3
    go_enter Try.func24, Try.ntmps24
    go_wp2_with (go_at_call 25; with_reducible refine (refletter_num _ _).mono ?_; rintro e w' ⟨rfl, hw'⟩; obtain rfl := hw'.symm; rw [E1.out])
    go_returns
    exact ⟨congrArg (fun b => Ending.returned (Value.bool b)) (decide_eq_true (by omega)), rfl⟩
  · rw [e3]
    have E1 := hid e1
    by_cases h1 : 48 ≤ c.toNat
    · have h2 : 57 < c.toNat := by
        have : ¬ c.toNat ≤ 57 := by simpa [h1] using e2
        omega
      clear e1 e2 e3
      go_enter Try.func24, Try.ntmps24
      go_wp2_with (go_at_call 25; with_reducible refine (refletter_num _ _).mono ?_; rintro e w' ⟨rfl, hw'⟩; obtain rfl := hw'.symm; rw [E1.out])
      go_returns
      exact ⟨congrArg (fun b => Ending.returned (Value.bool b)) (decide_eq_false (by omega)), rfl⟩
    · clear e1 e2 e3
      go_enter Try.func24, Try.ntmps24
      go_wp2_with (go_at_call 25; with_reducible refine (refletter_num _ _).mono ?_; rintro e w' ⟨rfl, hw'⟩; obtain rfl := hw'.symm; rw [E1.out])
      go_returns
      exact ⟨rfl, rfl⟩

/-- The first k bytes are good. -/
def ShG (s : ByteArray) (k : Nat) : Prop := (s.data.toList.take k).all ibOk = true ∧ (4 < k → ibLt (s.data.toList.getD 4 0) = true) ∧ (5 < k → ibLt (s.data.toList.getD 5 0) = true)
theorem shape_no {s : ByteArray} {n k : Nat} (hk : k < s.size) (h : ibOk s[k] = false ∨ (k = 4 ∨ k = 5) ∧ ibLt s[k] = false) : shapeV s.data.toList n = false := by
  rw [← Bool.not_eq_true, shapeV_iff]
  rintro ⟨_, h1, h2, h3⟩
  rcases h with h | ⟨rfl | rfl, h⟩
  · rw [all_bad hk h] at h1; cases h1
  · rw [byte_at s 4 hk, h] at h2; cases h2
  · rw [byte_at s 5 hk, h] at h3; cases h3

set_option maxRecDepth 100000 in
set_option maxHeartbeats 4000000 in
theorem refshape_any (s : ByteArray) (n : Nat) (hn : 6 ≤ n) (hn2 : n ≤ 1000) (w : World) :
    Calls Try.prog 20 #[.string s, .int .i64 n] w fun e w' => e = .returned (.bool (shapeV s.data.toList n)) ∧ w' = w := by
  have hl : s.data.toList.length = s.size := by simp
  by_cases hz : s.size = n
  · subst hz
    go_enter Try.func20, Try.ntmps20
    go_wp2
    go_loop [5] (fun i => ∃ k : Nat, k ≤ s.size ∧ i = .int .i64 k ∧ ShG s k) (fun i => s.size - (intOf i).toNat)
    case atStart => exact ⟨0, Nat.zero_le _, rfl, rfl, fun h => absurd h (by omega), fun h => absurd h (by omega)⟩
    case round =>
      obtain ⟨k, hk, rfl, hg⟩ := hrel
      have HG := hid hg
      clear hg
      by_cases hlt : k < s.size
      · have HS := hid (take_snoc s k hlt)
        have B1 := hid (fun w' => refboth_any s[k] w')
        have L1 := hid (fun w' => refletter_any s[k] w')
        cases ho : ibOk s[k]
        · have hno := hid (shape_no (n := s.size) hlt (.inl ho))
          rw [ho] at B1
          clear ho
          go_wp2_with (go_at_call 24; refine (B1.out _).mono ?_; rintro e w' ⟨rfl, hw'⟩; obtain rfl := hw'.symm)
          go_returns
          rw [hno.out]
          exact ⟨rfl, rfl⟩
        · rw [ho] at B1
          have HO := hid ho
          clear ho
          by_cases h45 : k = 4 ∨ k = 5
          · cases ht : ibLt s[k]
            · have hno := hid (shape_no (n := s.size) hlt (.inr ⟨h45, ht⟩))
              rw [ht] at L1
              clear ht
              rcases h45 with rfl | rfl
              · go_wp2_with (first | (go_at_call 24; refine (B1.out _).mono ?_; rintro e w' ⟨rfl, hw'⟩; obtain rfl := hw'.symm) | (go_at_call 25; refine (L1.out _).mono ?_; rintro e w' ⟨rfl, hw'⟩; obtain rfl := hw'.symm))
                go_returns
                rw [hno.out]
                exact ⟨rfl, rfl⟩
              · go_wp2_with (first | (go_at_call 24; refine (B1.out _).mono ?_; rintro e w' ⟨rfl, hw'⟩; obtain rfl := hw'.symm) | (go_at_call 25; refine (L1.out _).mono ?_; rintro e w' ⟨rfl, hw'⟩; obtain rfl := hw'.symm))
                go_returns
                rw [hno.out]
                exact ⟨rfl, rfl⟩
            · rw [ht] at L1
              have HT := hid ht
              clear ht
              rcases h45 with rfl | rfl
              · go_wp2_with (first | (go_at_call 24; refine (B1.out _).mono ?_; rintro e w' ⟨rfl, hw'⟩; obtain rfl := hw'.symm) | (go_at_call 25; refine (L1.out _).mono ?_; rintro e w' ⟨rfl, hw'⟩; obtain rfl := hw'.symm))
                go_round
                case rel => exact ⟨5, by omega, rfl, by rw [HS.out, List.all_append, HG.out.1]; simp [HO.out], fun _ => by rw [byte_at s 4 hlt]; exact HT.out, fun h => absurd h (by omega)⟩
                case measure => simp [intOf]; omega
              · go_wp2_with (first | (go_at_call 24; refine (B1.out _).mono ?_; rintro e w' ⟨rfl, hw'⟩; obtain rfl := hw'.symm) | (go_at_call 25; refine (L1.out _).mono ?_; rintro e w' ⟨rfl, hw'⟩; obtain rfl := hw'.symm))
                go_round
                case rel => exact ⟨6, by omega, rfl, by rw [HS.out, List.all_append, HG.out.1]; simp [HO.out], fun _ => HG.out.2.1 (by omega), fun _ => by rw [byte_at s 5 hlt]; exact HT.out⟩
                case measure => simp [intOf]; omega
          · have k4 : ((k : Int) == 4) = false := by rw [beq_eq_false_iff_ne]; omega
            have k5 : ((k : Int) == 5) = false := by rw [beq_eq_false_iff_ne]; omega
            have H45 := hid h45
            clear h45
            go_wp2_with (go_at_call 24; refine (B1.out _).mono ?_; rintro e w' ⟨rfl, hw'⟩; obtain rfl := hw'.symm)
            go_round
            case rel =>
              refine ⟨k + 1, by omega, by go_num, ?_, ?_, ?_⟩
              · rw [HS.out, List.all_append, HG.out.1]; simp [HO.out]
              · exact fun h => HG.out.2.1 (by have := H45.out; omega)
              · exact fun h => HG.out.2.2 (by have := H45.out; omega)
            case measure => simp [intOf]; omega
      · obtain rfl : k = s.size := by omega
        have hyes := hid (shapeV_iff.2 ⟨hl, by have h := HG.out.1; rw [take_all] at h; exact h, HG.out.2.1 (by omega), HG.out.2.2 (by omega)⟩)
        go_wp2
        go_returns
        rw [hyes.out]
        exact ⟨rfl, rfl⟩
  · have hno : shapeV s.data.toList n = false := by
      rw [← Bool.not_eq_true, shapeV_iff]
      exact fun h => hz (by omega)
    rw [hno]
    have hz2 : ((s.size : Int) != (n : Int)) = true := by rw [bne_iff_ne]; omega
    clear hz hno
    go_enter Try.func20, Try.ntmps20
    go_wp2
    go_returns
    exact ⟨rfl, rfl⟩

set_option maxHeartbeats 1000000 in
theorem refbic_any (s : ByteArray) (w : World) :
    Calls Try.prog 11 #[.string s] w fun e w' => e = .returned (.int .i64 (errB (bicV s.data.toList))) ∧ w' = w := by
  have S8 := hid (fun w' => refshape_any s 8 (by decide) (by decide) w')
  have S11 := hid (fun w' => refshape_any s 11 (by decide) (by decide) w')
  rw [bicV]
  generalize shapeV s.data.toList 8 = a at S8 ⊢
  generalize shapeV s.data.toList 11 = b at S11 ⊢
  cases a
  · cases b
    all_goals
      go_enter Try.func11, Try.ntmps11
      go_wp2_with fail
      refine (S8.out _).mono ?_
      rintro e w1 ⟨rfl, rfl⟩
      go_wp2_with fail
      refine (S11.out _).mono ?_
      rintro e w2 ⟨rfl, rfl⟩
      go_wp2
      go_returns
      exact ⟨rfl, rfl⟩
  · go_enter Try.func11, Try.ntmps11
    go_wp2_with fail
    refine (S8.out _).mono ?_
    rintro e w1 ⟨rfl, rfl⟩
    go_wp2
    go_returns
    exact ⟨rfl, rfl⟩

set_option maxHeartbeats 1000000 in
theorem refaddr_any (s : ByteArray) (w : World) :
    Calls Try.prog 12 #[.string s] w fun e w' => e = .returned (.int .i64 (errB (addrV s.data.toList))) ∧ w' = w := by
  have S12 := hid (fun w' => refshape_any s 12 (by decide) (by decide) w')
  rw [addrV]
  generalize shapeV s.data.toList 12 = a at S12 ⊢
  cases a
  all_goals
    go_enter Try.func12, Try.ntmps12
    go_wp2_with fail
    refine (S12.out _).mono ?_
    rintro e w1 ⟨rfl, rfl⟩
    go_wp2
    go_returns
    exact ⟨rfl, rfl⟩

/-- The full form, the short one, the address, the code of an address, as texts. -/
def fullS (s : ByteArray) : ByteArray := ⟨(fullL s.data.toList).toArray⟩
def shortS (s : ByteArray) : ByteArray := ⟨(shortL s.data.toList).toArray⟩
def addrS (s : ByteArray) : ByteArray := ⟨(addrL s.data.toList).toArray⟩
def ofS (s : ByteArray) : ByteArray := ⟨(ofL s.data.toList).toArray⟩
theorem full_8 {s : ByteArray} (h : s.size = 8) : fullS s = s ++ ⟨#[88, 88, 88]⟩ := ib_str_eq (by
  rw [fullS, fullL, if_pos (by simpa using h)]; simp)
theorem full_no {s : ByteArray} (h : ¬ s.size = 8) : fullS s = s := ib_str_eq (by
  rw [fullS, fullL, if_neg (by simpa using h)])
theorem short_11 {s : ByteArray} (h : s.size = 11) (h8 : s[8] = 88) (h9 : s[9] = 88) (h10 : s[10] = 88) : shortS s = s.extract 0 8 := ib_str_eq (by
  have hd : s.data.toList.drop 8 = [88, 88, 88] := by
    have hl : s.data.toList.length = 11 := by simpa using h
    rw [List.drop_eq_getElem_cons (by omega), List.drop_eq_getElem_cons (by omega), List.drop_eq_getElem_cons (by omega), List.drop_of_length_le (by omega)]
    exact congr (congrArg _ h8) (congr (congrArg _ h9) (congrArg (· :: []) h10))
  rw [ext_lst, List.drop_zero]
  rw [shortS, shortL, if_pos ⟨by simpa using h, hd⟩])
theorem short_no {s : ByteArray} (h : ¬ s.size = 11 ∨ ∃ h : s.size = 11, s[8] ≠ 88 ∨ s[9] ≠ 88 ∨ s[10] ≠ 88) : shortS s = s := ib_str_eq (by
  rw [shortS, shortL, if_neg]
  rintro ⟨h1, h2⟩
  have h1 : s.size = 11 := by simpa using h1
  rcases h with h | ⟨_, h⟩
  · exact h h1
  · have g : ∀ j, j < 3 → s.data.toList.getD (8 + j) 0 = 88 := fun j hj => by
      rw [List.getD_eq_getElem?_getD, ← List.getElem?_drop, h2]
      match j, hj with
      | 0, _ => rfl
      | 1, _ => rfl
      | 2, _ => rfl
    have g8 := g 0 (by decide)
    have g9 := g 1 (by decide)
    have g10 := g 2 (by decide)
    rw [byte_at s 8 (by omega)] at g8
    rw [byte_at s 9 (by omega)] at g9
    rw [byte_at s 10 (by omega)] at g10
    rcases h with h | h | h
    · exact h g8
    · exact h g9
    · exact h g10)

set_option maxHeartbeats 1000000 in
theorem reffull_any (s : ByteArray) (w : World) :
    Calls Try.prog 15 #[.string s] w fun e w' => e = .returned (.string (fullS s)) ∧ w' = w := by
  by_cases h : s.size = 8
  · rw [full_8 h]
    have z3 : (⟨#[88, 88, 88]⟩ : ByteArray).size = 3 := rfl
    go_enter Try.func15, Try.ntmps15
    go_wp2
    go_returns
    exact ⟨rfl, rfl⟩
  · rw [full_no h]
    go_enter Try.func15, Try.ntmps15
    go_wp2
    go_returns
    exact ⟨rfl, rfl⟩

set_option maxHeartbeats 1000000 in
theorem refshort_any (s : ByteArray) (w : World) :
    Calls Try.prog 16 #[.string s] w fun e w' => e = .returned (.string (shortS s)) ∧ w' = w := by
  by_cases h : s.size = 11
  · have k8 : 8 < s.size := by omega
    have k9 : 9 < s.size := by omega
    have k10 : 10 < s.size := by omega
    by_cases h8 : s[8] = 88
    · have b8 : ((s[8].toNat : Int) == 88) = true := by rw [h8]; rfl
      by_cases h9 : s[9] = 88
      · have b9 : ((s[9].toNat : Int) == 88) = true := by rw [h9]; rfl
        by_cases h10 : s[10] = 88
        · have b10 : ((s[10].toNat : Int) == 88) = true := by rw [h10]; rfl
          rw [short_11 h h8 h9 h10]
          clear h8 h9 h10
          go_enter Try.func16, Try.ntmps16
          go_wp2
          go_returns
          exact ⟨rfl, rfl⟩
        · have b10 : ((s[10].toNat : Int) == 88) = false := by
            rw [beq_eq_false_iff_ne]; intro e; exact h10 (UInt8.toNat_inj.1 (by have : (88 : UInt8).toNat = 88 := rfl; omega))
          rw [short_no (.inr ⟨h, .inr (.inr h10)⟩)]
          clear h8 h9 h10
          go_enter Try.func16, Try.ntmps16
          go_wp2
          go_returns
          exact ⟨rfl, rfl⟩
      · have b9 : ((s[9].toNat : Int) == 88) = false := by
          rw [beq_eq_false_iff_ne]; intro e; exact h9 (UInt8.toNat_inj.1 (by have : (88 : UInt8).toNat = 88 := rfl; omega))
        rw [short_no (.inr ⟨h, .inr (.inl h9)⟩)]
        clear h8 h9
        go_enter Try.func16, Try.ntmps16
        go_wp2
        go_returns
        exact ⟨rfl, rfl⟩
    · have b8 : ((s[8].toNat : Int) == 88) = false := by
        rw [beq_eq_false_iff_ne]; intro e; exact h8 (UInt8.toNat_inj.1 (by have : (88 : UInt8).toNat = 88 := rfl; omega))
      rw [short_no (.inr ⟨h, .inl h8⟩)]
      clear h8
      go_enter Try.func16, Try.ntmps16
      go_wp2
      go_returns
      exact ⟨rfl, rfl⟩
  · have hb : ((s.size : Int) == 11) = false := by rw [beq_eq_false_iff_ne]; omega
    rw [short_no (.inl h)]
    clear h
    go_enter Try.func16, Try.ntmps16
    go_wp2
    go_returns
    exact ⟨rfl, rfl⟩
end Go.Proofs.Ytfelomakgdplfaa
