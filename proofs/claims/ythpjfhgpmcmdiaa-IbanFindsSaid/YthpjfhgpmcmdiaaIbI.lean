/-
  The digits that a text of letters and digits stands for: the iterator of package iban, as a contract for every loop body.
-/
import Derived.Test.YthpjfhgpmcmdiaaIbA
import Derived.Test.YthpjfhgpmcmdiaaDig
namespace Go.Proofs.Ythpjfhgpmcmdiaa
open Go.RowKit Go.Shelf
attribute [local go_sem] Oper.semAt_some

abbrev Dgt.encs (x : Fin 10) : Array Value := #[.int .i64 (x.1 : Nat)]
/-- The digits that stand for a byte; for a text. -/
def dgF (c : UInt8) : List (Fin 10) := (ibVal c).map (Fin.ofNat 10)
def dgsF (l : List UInt8) : List (Fin 10) := l.flatMap dgF
theorem dgsF_snoc (l : List UInt8) (c : UInt8) : dgsF (l ++ [c]) = dgsF l ++ dgF c := by simp [dgsF]
theorem dgsF_append (a b : List UInt8) : dgsF (a ++ b) = dgsF a ++ dgsF b := by simp [dgsF]
theorem ok_cases {c : UInt8} (h : ibOk c = true) : (48 ≤ c.toNat ∧ c.toNat ≤ 57) ∨ (65 ≤ c.toNat ∧ c.toNat ≤ 90) := by
  simp only [ibOk, ibDg, ibLt, Bool.or_eq_true, Bool.and_eq_true, decide_eq_true_eq] at h
  exact h
theorem dgF_dg {c : UInt8} (h1 : 48 ≤ c.toNat) (h2 : c.toNat ≤ 57) : dgF c = [⟨c.toNat - 48, by omega⟩] := by
  rw [dgF, (ok_dg h1 h2).2]
  simp only [List.map_cons, List.map_nil, List.cons.injEq, and_true]
  exact Fin.ext (Nat.mod_eq_of_lt (by omega))
theorem dgF_lt {c : UInt8} (h1 : 65 ≤ c.toNat) (h2 : c.toNat ≤ 90) : dgF c = [⟨(c.toNat - 55) / 10, by omega⟩, ⟨(c.toNat - 55) % 10, by omega⟩] := by
  rw [dgF, (ok_lt h1 h2).2]
  simp only [List.map_cons, List.map_nil, List.cons.injEq, and_true]
  exact ⟨Fin.ext (Nat.mod_eq_of_lt (by omega)), Fin.ext (Nat.mod_eq_of_lt (by omega))⟩
theorem dgF_val {c : UInt8} (h : ibOk c = true) : (dgF c).map (·.1) = ibVal c := by
  rcases ok_cases h with ⟨h1, h2⟩ | ⟨h1, h2⟩
  · rw [dgF_dg h1 h2, (ok_dg h1 h2).2]; rfl
  · rw [dgF_lt h1 h2, (ok_lt h1 h2).2]; rfl
theorem dgsF_val {l : List UInt8} (h : l.all ibOk = true) : (dgsF l).map (·.1) = digsOf l := by
  induction l with
  | nil => rfl
  | cons c l ih =>
    simp only [List.all_cons, Bool.and_eq_true] at h
    have e1 : dgsF (c :: l) = dgF c ++ dgsF l := by simp [dgsF]
    have e2 : digsOf (c :: l) = ibVal c ++ digsOf l := by simp [digsOf]
    rw [e1, e2, List.map_append, dgF_val h.1, ih h.2]
/-- Byte k of a text, and the digits ahead of it and behind. -/
theorem dgsF_at (s : ByteArray) (k : Nat) (h : k < s.size) : ∃ r, dgsF s.data.toList = dgsF (s.data.toList.take k) ++ (dgF s[k] ++ r) :=
  ⟨dgsF (s.data.toList.drop (k + 1)), by
    rw [← List.append_assoc, ← dgsF_snoc, ← take_snoc s k h, ← dgsF_append, List.take_append_drop]⟩
theorem all_at {T : ByteArray} {k : Nat} (h : k < T.size) (ha : T.data.toList.all ibOk = true) : ibOk T[k] = true := by
  rw [List.all_eq_true] at ha
  exact ha _ (by rw [ByteArray.getElem_eq_getElem_data]; exact Array.mem_toList_iff.2 (Array.getElem_mem _))

set_option maxRecDepth 100000 in
set_option maxHeartbeats 4000000 in
theorem ibdigits1_in (n : Nat) (hn : 1 ≤ n) (l Bs : Nat) (s : ByteArray) (hs : s.size ≤ 9223372036854775807) (hok : s.data.toList.all ibOk = true) (B : Nat) (J Jx : List (Fin 10) → World → Prop) (_hJ : AbidesFrom B J)
    (hY : ∀ pre x W, J pre W → pre.length < (dgsF s.data.toList).length → YieldAt Fence.wide (n - 1) Try.prog l (Dgt.encs x) W fun e W' =>
      (e = .returned (.bool true) ∧ J (pre ++ [x]) W' ∧ KeepsCell Bs W W') ∨ (e = .returned (.bool false) ∧ Jx (pre ++ [x]) W'))
    (W : World) (hBs : W.cell? ⟨Bs, 0, none⟩ = some (.string s)) (h0 : J [] W) :
    CallsIn Fence.wide n Try.prog 21 #[.func (.yield l) #[] #[], .pointer (some ⟨Bs, 0, none⟩)] W fun e W' => (∃ v, e = .returned v) ∧
      ((∃ ys, ys = dgsF s.data.toList ∧ J ys W') ∨ (∃ pre, pre <+: dgsF s.data.toList ∧ Jx pre W')) := by
  refine callsIn_of_wp Try.func21 rfl trivial ?_ rfl
  simp only [Try.ntmps21, List.size_toArray, List.length_cons, List.length_nil, Nat.reduceAdd, Nat.reduceSub, Array.replicate_succ, Array.replicate_zero, List.push_toArray, List.append_toArray, List.nil_append, List.cons_append]
  have hfC : Fence.wide.fn 20 := trivial
  gi_wp2
  gi_loopw [7] (fun i wr => ∃ k : Nat, k ≤ s.size ∧ i = .int .i64 k ∧ J (dgsF (s.data.toList.take k)) wr ∧ wr.cell? ⟨Bs, 0, none⟩ = some (.string s))
    (fun i _ => s.size - (intOf i).toNat)
  case atStart => exact ⟨0, Nat.zero_le _, rfl, h0, hBs⟩
  case round =>
    obtain ⟨k, hk, rfl, hJs, hcx⟩ := hrel
    by_cases hlt : k < s.size
    · have HS := hid (take_snoc s k hlt)
      obtain ⟨r, hr⟩ := dgsF_at s k hlt
      rcases ok_cases (all_at hlt hok) with ⟨h1, h2⟩ | ⟨h1, h2⟩
      · have hdg := dgF_dg h1 h2
        rw [hdg] at hr
        have HD := hid hdg
        have HR := hid hr
        have HJ := hid hJs
        have E1 := hid (show (decide (65 ≤ s[k].toNat) && decide (s[k].toNat ≤ 90)) = false by rw [decide_eq_false (by omega)]; rfl)
        have q1 : IntKind.u8.wrap ((s[k].toNat : Int) - 48) = (s[k].toNat : Int) - 48 := IntWalk.u8_in _ ⟨by omega, by omega⟩
        have q2 : ((s[k].toNat : Int) - 48) % 10 = (s[k].toNat : Int) - 48 := by omega
        have q3 : ((s[k].toNat - 48 : Nat) : Int) = (s[k].toNat : Int) - 48 := by omega
        obtain ⟨fn, tmps, assign, body, hy, hR⟩ := hY _ ⟨s[k].toNat - 48, by omega⟩ wr hJs (by rw [hr]; simp)
        dsimp only [Dgt.encs] at hy
        rw [q3] at hy
        clear hdg hr hJs hY hok
        gi_wp2_with (gi_at_call 20; refine (callsIn_wide.2 (isLetter_any _ _)).mono ?_; rintro e w' ⟨rfl, rfl⟩; rw [E1.out])
        refine ⟨fun _ h => (by cases h), ?_⟩
        gi_wp2
        refine hR.mono ?_
        rintro e W3 (⟨rfl, hJ3, hk3⟩ | ⟨rfl, hJx3⟩)
        · gi_wp2
          go_roundw
          case rel => exact ⟨k + 1, by omega, by go_num, by rw [HS.out, dgsF_snoc, HD.out]; exact hJ3, hk3 _ hcx⟩
          case measure => simp [intOf]; omega
        · gi_wp2
          refine bodyPost_ret (results_none rfl _ _ _) rfl ?_
          exact ⟨⟨_, rfl⟩, .inr ⟨_, ⟨r, by rw [HR.out, List.append_assoc]⟩, hJx3⟩⟩
      · have hdg := dgF_lt h1 h2
        have HJ := hid hJs
        have E1 := hid (show (decide (65 ≤ s[k].toNat) && decide (s[k].toNat ≤ 90)) = true by rw [decide_eq_true h1, decide_eq_true h2]; rfl)
        have q1 : IntKind.u8.wrap ((s[k].toNat : Int) - 65) = (s[k].toNat : Int) - 65 := IntWalk.u8_in _ ⟨by omega, by omega⟩
        have q3 : (((s[k].toNat - 55) / 10 : Nat) : Int) = ((s[k].toNat : Int) - 65 + 10) / 10 := by omega
        have HQ := hid (show (((s[k].toNat - 55) % 10 : Nat) : Int) = ((s[k].toNat : Int) - 65) % 10 by omega)
        obtain ⟨d1, hd1⟩ : ∃ d : Fin 10, d.1 = (s[k].toNat - 55) / 10 := ⟨⟨(s[k].toNat - 55) / 10, by omega⟩, rfl⟩
        obtain ⟨d2, hd2⟩ : ∃ d : Fin 10, d.1 = (s[k].toNat - 55) % 10 := ⟨⟨(s[k].toNat - 55) % 10, by omega⟩, rfl⟩
        have hdg2 : dgF s[k] = [d1, d2] := hdg.trans (by rw [List.cons.injEq, List.cons.injEq]; exact ⟨Fin.ext hd1.symm, Fin.ext hd2.symm, rfl⟩)
        rw [hdg2] at hr
        have HD := hid hdg2
        have HR := hid hr
        have HY2 := hid (fun W1 hj => hY (dgsF (s.data.toList.take k) ++ [d1]) d2 W1 hj (by rw [hr]; simp))
        obtain ⟨fn, tmps, assign, body, hy, hR⟩ := hY _ d1 wr hJs (by rw [hr]; simp)
        dsimp only [Dgt.encs] at hy
        rw [hd1, q3] at hy
        rw [← hd2] at HQ
        clear hdg hr hJs hY hok hdg2 hd1 hd2 q3
        gi_wp2_with (gi_at_call 20; refine (callsIn_wide.2 (isLetter_any _ _)).mono ?_; rintro e w' ⟨rfl, rfl⟩; rw [E1.out])
        refine hR.mono ?_
        clear hy
        rintro e W3 (⟨rfl, hJ3, hk3⟩ | ⟨rfl, hJx3⟩)
        · have hcx3 := hk3 _ hcx
          obtain ⟨fn2, tmps2, assign2, body2, hy2, hR2⟩ := HY2.out W3 hJ3
          dsimp only [Dgt.encs] at hy2
          rw [HQ.out] at hy2
          gi_wp2
          refine hR2.mono ?_
          clear hy2
          rintro e W4 (⟨rfl, hJ4, hk4⟩ | ⟨rfl, hJx4⟩)
          · gi_wp2
            go_roundw
            case rel => exact ⟨k + 1, by omega, by go_num, by rw [HS.out, dgsF_snoc, HD.out]; simpa using hJ4, hk4 _ hcx3⟩
            case measure => simp [intOf]; omega
          · gi_wp2
            refine bodyPost_ret (results_none rfl _ _ _) rfl ?_
            exact ⟨⟨_, rfl⟩, .inr ⟨_, ⟨r, by rw [HR.out]; simp⟩, hJx4⟩⟩
        · gi_wp2
          refine bodyPost_ret (results_none rfl _ _ _) rfl ?_
          exact ⟨⟨_, rfl⟩, .inr ⟨_, ⟨[d2] ++ r, by rw [HR.out]; simp⟩, hJx3⟩⟩
    · obtain rfl : k = s.size := by omega
      rw [take_all] at hJs
      gi_wp2
      go_end0
      exact ⟨⟨_, rfl⟩, .inl ⟨_, rfl, hJs⟩⟩

/-- **'digits(s)' hands back a value that goes through the digits of s.** -/
theorem ibdigits_stops (n : Nat) (hn : 1 ≤ n) (Bs : Nat) (s : ByteArray) (hs : s.size ≤ 9223372036854775807) (hok : s.data.toList.all ibOk = true) (w : World) (hBs : Bs < w.heap.size)
    (hc : w.cell? ⟨Bs, 0, none⟩ = some (.string s)) :
    SeqStopsK Fence.wide n Try.prog 21 #[.pointer (some ⟨Bs, 0, none⟩)] Dgt.encs (KeepsCell Bs) (fun ys => ys = dgsF s.data.toList) (fun pre => pre <+: dgsF s.data.toList) (dgsF s.data.toList).length w := fun l J Jx W hW hJ _ hY h0 =>
  ibdigits1_in n hn l Bs s hs hok W.heap.size J Jx hJ hY W ((hW.cell (p := ⟨Bs, 0, none⟩) hBs).trans hc) h0

set_option maxHeartbeats 400000 in
theorem ibdigits_any (s : ByteArray) (w : World) :
    Calls Try.prog 16 #[.string s] w fun e w' => e = .returned (.func (.func 21) #[] #[.pointer (some ⟨w.heap.size, 0, none⟩)]) ∧ w' = w.alloc (.cells #[.string s] 9) := by
  go_enter Try.func16, Try.ntmps16
  go_wp2
  go_returns
  exact ⟨rfl, rfl⟩
end Go.Proofs.Ythpjfhgpmcmdiaa
