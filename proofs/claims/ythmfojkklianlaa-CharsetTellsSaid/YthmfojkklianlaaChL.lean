/-
  The program's lines: line, same, Join.
-/
import Derived.Test.YthmfojkklianlaaChQ
import Derived.Test.YthmfojkklianlaaChU
import Derived.Lib.MinMax
namespace Go.Proofs.Ythmfojkklianlaa
open Go.RowKit

theorem chjoin_any (v : Value) (ps : List (List UInt8)) (hps : ps.flatten.length ≤ 4000) (hz : ps.length ≤ 4001) (w : World) (h : RowS w v ps) :
    Calls Try.prog 13 #[v] w fun e w' => e = .returned (.string ⟨ps.flatten.toArray⟩) ∧ Below w.heap.size w w' := by
  obtain ⟨a, cap, rfl, hn, hc⟩ := h
  have hj : Hid (Calls Try.prog 22 #[.slice a ps.length cap, .string ⟨#[]⟩] w fun e w' => e = .returned (.string ⟨ps.flatten.toArray⟩) ∧ Below w.heap.size w w') := by
    refine hid ?_
    cases ps with
    | nil =>
      refine (Try.strings_Join_none a cap ⟨#[]⟩ w).mono ?_
      rintro e w' ⟨rfl, rfl⟩
      exact ⟨rfl, Below.refl _ _⟩
    | cons p ps =>
      obtain ⟨g, ha, hg, _⟩ := hc 0 (by simp)
      subst ha
      have hm : ((p :: ps).map (fun q => (⟨q.toArray⟩ : ByteArray))).map (·.data.toList) = p :: ps := by
        rw [List.map_map]
        exact List.map_id'' (fun q => by simp) _
      have hfl : Lib.join (p :: ps) [] = (p :: ps).flatten := by
        rw [Lib.join_cons, Lib.joinTail]
        simp
      have hjn := Try.strings_Join g 0 cap ((p :: ps).map (fun q => (⟨q.toArray⟩ : ByteArray))) ⟨#[]⟩ w (fun j x hx => by
        rw [List.getElem?_map] at hx
        obtain ⟨q, hq, rfl⟩ := Option.map_eq_some_iff.1 hx
        obtain ⟨hjl, rfl⟩ := List.getElem?_eq_some_iff.1 hq
        obtain ⟨g', e, _, h2⟩ := hc j hjl
        cases e
        rw [Nat.zero_add, h2, strVals_at hjl]) hg (by simp at hz ⊢; omega) (by rw [List.length_map]; exact hn) (by
        rw [hm, show (⟨#[]⟩ : ByteArray).data.toList = [] from rfl, hfl]; omega)
      rw [hm, show (⟨#[]⟩ : ByteArray).data.toList = [] from rfl, hfl, List.length_map] at hjn
      exact hjn
  clear hc
  go_enter Try.func13, Try.ntmps13
  go_wp2_with fail
  refine hj.out.mono ?_
  rintro e w1 ⟨rfl, hb⟩
  go_wp2
  go_returns
  exact ⟨rfl, hb⟩

set_option maxHeartbeats 1000000 in
theorem clone_any (s : ByteArray) (hs : s.size ≤ 4000) (w : World) :
    Calls Try.prog 26 #[.string s] w fun e w' => e = .returned (.string s) ∧ Below w.heap.size w w' := by
  have hj := hid (Try.stringslite_Clone s w (by omega))
  go_enter Try.func26, Try.ntmps26
  go_wp2_with fail
  refine hj.out.mono ?_
  rintro e w1 ⟨rfl, hb⟩
  go_wp2
  go_returns
  exact ⟨rfl, hb⟩

set_option maxHeartbeats 1000000 in
theorem chline_any (p : List UInt8) (hp : p ≠ []) (hs : p.length ≤ 4000) (w : World) :
    Calls Try.prog 20 #[.string ⟨p.toArray⟩] w fun e w' => e = .returned (.string ⟨(lineV p).toArray⟩) ∧ Below w.heap.size w w' := by
  obtain ⟨c, r, rfl⟩ : ∃ c r, p = c :: r := by
    cases p with
    | nil => exact (hp rfl).elim
    | cons c r => exact ⟨c, r, rfl⟩
  generalize hS : (⟨(c :: r).toArray⟩ : ByteArray) = S
  have hl : S.data.toList = c :: r := by rw [← hS]
  have hz : S.size = r.length + 1 := by rw [← hS]; rfl
  have h0 : 0 < S.size := by omega
  have hc : S[0] = c := by
    have h := byte_at S 0 h0
    rw [hl] at h
    exact h.symm
  have hC := hid (fun w' : World => clone_any S (by simp at hs; omega) w')
  have hx : S.extract 1 S.size = ⟨r.toArray⟩ := ib_str_eq (by
    rw [ext_lst, take_all, hl]; rfl)
  have h1 : (1 : Int) ≤ (S.size : Int) := by omega
  have hs2 : S.size ≤ 4000 := by simp at hs; omega
  have hcat : (⟨#[46]⟩ ++ S.extract 1 S.size : ByteArray) = ⟨(46 :: r).toArray⟩ := by
    rw [hx]; exact ib_str_eq (by simp)
  have hS2 := hid hS
  have HX := hid hcat
  clear hz hx hcat hS hs hp
  by_cases e1 : c = 58
  · have hb : ((S[0].toNat : Int) == 58) = true := by rw [hc, e1]; rfl
    have hv : lineV (c :: r) = 46 :: r := by rw [lineV, if_pos (.inl e1)]
    rw [hv]
    clear hv e1 hc hl hS2
    go_enter Try.func20, Try.ntmps20
    go_wp2
    go_returns
    rw [← HX.out]
    exact ⟨rfl, Below.refl _ _⟩
  · have hb : ((S[0].toNat : Int) == 58) = false := by
      rw [hc, beq_eq_false_iff_ne]
      intro h
      exact e1 (UInt8.toNat_inj.1 (by show c.toNat = 58; omega))
    by_cases e2 : c = 45
    · have hb2 : ((S[0].toNat : Int) == 45) = true := by rw [hc, e2]; rfl
      have hv : lineV (c :: r) = 46 :: r := by rw [lineV, if_pos (.inr e2)]
      rw [hv]
      clear hv e1 e2 hc hl hS2
      go_enter Try.func20, Try.ntmps20
      go_wp2
      go_returns
      rw [← HX.out]
      exact ⟨rfl, Below.refl _ _⟩
    · have hb2 : ((S[0].toNat : Int) == 45) = false := by
        rw [hc, beq_eq_false_iff_ne]
        intro h
        exact e2 (UInt8.toNat_inj.1 (by show c.toNat = 45; omega))
      have hv : lineV (c :: r) = c :: r := by rw [lineV, if_neg (fun x => x.elim e1 e2)]
      rw [hv, hS2.out]
      clear hv e1 e2 hc hl hS2
      go_enter Try.func20, Try.ntmps20
      go_wp2_with fail
      refine (hC.out _).mono ?_
      rintro e w1 ⟨rfl, hbw⟩
      go_wp2
      go_returns
      exact ⟨rfl, hbw⟩

set_option maxRecDepth 100000 in
set_option maxHeartbeats 2000000 in
theorem chsame_any (a b : ByteArray) (ha : a.size ≤ 4000) (_hb : b.size ≤ 4000) (w : World) :
    Calls Try.prog 21 #[.string a, .string b] w fun e w' => e = .returned (.int .i64 ((cpl a.data.toList b.data.toList : Nat) : Int)) ∧ Below w.heap.size w w' := by
  go_enter Try.func21, Try.ntmps21
  go_wp2
  go_loopw [5] (fun i wr => ∃ k : Nat, i = .int .i64 k ∧ k ≤ a.size ∧ k ≤ b.size ∧ Below w.heap.size w wr ∧ cpl a.data.toList b.data.toList = k + cpl (a.data.toList.drop k) (b.data.toList.drop k)) (fun i _ => a.size - (intOf i).toNat)
  case atStart => exact ⟨0, rfl, Nat.zero_le _, Nat.zero_le _, Below.refl _ _, by simp⟩
  case round =>
    obtain ⟨k, rfl, hka, hkb, hbw, hcp⟩ := hrel
    have HC := hid hcp
    clear hcp
    by_cases hlt : k < min a.size b.size
    · have h1 : k < a.size := by omega
      have h2 : k < b.size := by omega
      have hg : (k : Int) < min (a.size : Int) (b.size : Int) := by omega
      have hda := hid (drop_cons a k h1)
      have hdb := hid (drop_cons b k h2)
      by_cases he : a[k] = b[k]
      · have hq : ((a[k].toNat : Int) == (b[k].toNat : Int)) = true := by rw [he]; exact beq_self_eq_true _
        have HE := hid he
        clear he
        go_wp2
        go_quiet (fail)
        go_wp2
        go_roundw
        case rel => exact ⟨k + 1, by go_num, by omega, by omega, ib_below_drewN hbw nq, by rw [HC.out, hda.out, hdb.out, cpl, if_pos HE.out]; omega⟩
        case measure => simp [intOf]; omega
      · have hq : ((a[k].toNat : Int) == (b[k].toNat : Int)) = false := by
          rw [beq_eq_false_iff_ne]; intro e; exact he (UInt8.toNat_inj.1 (by omega))
        have hfin : cpl a.data.toList b.data.toList = k := by rw [HC.out, hda.out, hdb.out, cpl, if_neg he]; rfl
        have HF := hid hfin
        clear hfin he
        go_wp2
        go_quiet (fail)
        go_wp2
        go_returns
        rw [HF.out]
        exact ⟨rfl, ib_below_drewN hbw _⟩
    · have hg : decide ((k : Int) < min (a.size : Int) (b.size : Int)) = false := decide_eq_false (by omega)
      have hfin : cpl a.data.toList b.data.toList = k := by
        rw [HC.out]
        have hz : k = a.size ∨ k = b.size := by omega
        rcases hz with hz | hz
        · rw [List.drop_of_length_le (l := a.data.toList) (by simp; omega)]; rfl
        · rw [List.drop_of_length_le (l := b.data.toList) (by simp; omega)]
          cases List.drop k a.data.toList <;> rfl
      have HF := hid hfin
      clear hfin
      go_wp2
      go_quiet (fail)
      go_wp2
      go_returns
      rw [HF.out]
      exact ⟨rfl, ib_below_drewN hbw _⟩
end Go.Proofs.Ythmfojkklianlaa
