/-
  The program's contracts for sets of characters and folded lines: Check.
-/
import Derived.Test.YtgdiejjjlchkpaaDoorChD
import Derived.Test.YtgdiejjjlchkpaaDoorChM
namespace Go.Proofs.YtgdiejjjlchkpaaDoor
open Go.RowKit

theorem get_getD (s : ByteArray) (k : Nat) : s.get! k = s.data.toList.getD k 0 := by
  rw [List.getD_eq_getElem?_getD, Array.getElem?_toList]
  show s.data[k]! = _
  rw [getElem!_def]
  split
  · rename_i h; rw [h]; rfl
  · rename_i h; rw [h]; rfl
theorem dec_list (s : ByteArray) (p : Nat) : Utf8.decode s p = Lib.decodeN (s.data.toList.drop p).length ((s.data.toList.drop p).getD 0 0).toNat ((s.data.toList.drop p).getD 1 0).toNat ((s.data.toList.drop p).getD 2 0).toNat ((s.data.toList.drop p).getD 3 0).toNat := by
  have hg : ∀ j, (s.data.toList.drop p).getD j 0 = s.get! (p + j) := fun j => by
    rw [get_getD, List.getD_eq_getElem?_getD, List.getD_eq_getElem?_getD, List.getElem?_drop]
  rw [Lib.decode_at, hg, hg, hg, hg, List.length_drop]
  rfl
theorem dec_wd (s : ByteArray) (p : Nat) : (Utf8.decode s p).2 = wd (s.data.toList.drop p) := by rw [dec_list]; rfl
theorem dec_valid (s : ByteArray) (p : Nat) : Utf8.valid ((Utf8.decode s p).1 : Int) = true := by
  rw [validRune_eq, Lib.decode_at]
  have h0 := (s.get! p).toNat_lt
  have h1 := (s.get! (p + 1)).toNat_lt
  unfold Lib.decodeN validRune
  repeat' split
  all_goals
    simp only [decide_eq_true_eq]
    omega
theorem dec_low (s : ByteArray) (p : Nat) (h : p < s.size) (hr : (Utf8.decode s p).1 < 128) : (Utf8.decode s p).1 = s[p].toNat ∧ (Utf8.decode s p).2 = 1 := by
  by_cases hc : (s[p]'h).toNat < 128
  · rw [decode_ascii s p h hc]; exact ⟨rfl, rfl⟩
  · have := (decode_high s p h (by omega)).1; omega
theorem dec_high (s : ByteArray) (p : Nat) (h : p < s.size) (hr : 128 ≤ (Utf8.decode s p).1) : 128 ≤ s[p].toNat := by
  by_cases hc : (s[p]'h).toNat < 128
  · rw [decode_ascii s p h hc] at hr; dsimp only at hr; omega
  · omega
theorem inV_low {n : Nat} {c : UInt8} (h : inV n c = true) : c.toNat < 128 := by
  have kx : ∀ k : Fin 256, inX (UInt8.ofNat k.1) = true → k.1 < 128 := by decide +kernel
  have ky : ∀ k : Fin 256, inY (UInt8.ofNat k.1) = true → k.1 < 128 := by decide +kernel
  have kz : ∀ k : Fin 256, inZ (UInt8.ofNat k.1) = true → k.1 < 128 := by decide +kernel
  rw [inV] at h
  split at h
  · exact kx ⟨c.toNat, c.toNat_lt⟩ (by simpa using h)
  · split at h
    · exact ky ⟨c.toNat, c.toNat_lt⟩ (by simpa using h)
    · split at h
      · exact kz ⟨c.toNat, c.toNat_lt⟩ (by simpa using h)
      · cases h
/-- The rune at a place is of the set just if the byte there is. -/
theorem inR_at (n : Nat) (s : ByteArray) (p : Nat) (h : p < s.size) : inR n (Utf8.decode s p).1 = inV n s[p] := by
  by_cases hr : (Utf8.decode s p).1 < 128
  · rw [inR, decide_eq_true hr, Bool.true_and, (dec_low s p h hr).1, UInt8.ofNat_toNat]
  · rw [inR, decide_eq_false hr, Bool.false_and]
    cases hv : inV n s[p]
    · rfl
    · have := inV_low hv
      have := dec_high s p h (by omega)
      omega
theorem inR_yes {n r : Nat} (h : inR n r = true) : r < 128 := by
  rw [inR, Bool.and_eq_true, decide_eq_true_eq] at h
  exact h.1

set_option maxRecDepth 100000 in
set_option maxHeartbeats 4000000 in
theorem chcheck_any (n : Nat) (s : ByteArray) (hn : n ≤ 255) (_hs : s.size ≤ 4000) (w : World) :
    Calls Tryd.prog 19 #[.int .u8 n, .string s] w fun e w' => e = .returned (.tuple #[.int .i64 (chkV n s.data.toList).1, .int .i64 (chkV n s.data.toList).2]) ∧ Below w.heap.size w w' := by
  have HH := hid (fun (r : Nat) (hv : Utf8.valid r = true) (w' : World) => alphHas_any n r hv w')
  have HI := hid (fun p h => inR_at n s p h)
  generalize hcv : chkV n s.data.toList = cv
  have HC := hid hcv
  clear hcv
  go_enter Tryd.func19, Tryd.ntmps19
  go_wp2_with fail
  refine (alphabets_any w).mono ?_
  rintro e w1 ⟨rfl, hb, hl⟩
  have hk : (Instr.lookup 53 (.map (some w.heap.size)) (.int .u8 (n : Int)) true).run Tryd.prog w1 = .ok (.tuple #[.agg #[.string (alphS n)], .bool (isSetV n)]) w1 := hl n hn true
  clear hl
  generalize alphS n = S at hk HH ⊢
  generalize hS : isSetV n = B at hk ⊢
  have HS := hid hS
  clear hS
  cases B
  · go_wp2
    go_returns
    have e : cv = (0, 1) := by
      rw [← HC.out, chkV, if_neg]
      have h := HS.out
      simp only [isSetV, Bool.or_eq_false_iff, beq_eq_false_iff_ne] at h
      omega
    subst e
    exact ⟨rfl, hb.alloc hb.size _⟩
  · have hit0 : ((w1.alloc (.cells #[.string S] 51)).iter s 0).heap[w1.heap.size + 1]? = some (.stringIter s 0) := by
      have h := World.iter_heap (w1.alloc (.cells #[.string S] 51)) s 0
      rw [World.size_alloc] at h
      exact h
    have hcl0 : ((w1.alloc (.cells #[.string S] 51)).iter s 0).cell? ⟨w1.heap.size, 0, none⟩ = some (.string S) := cell_kept (W := w1.alloc (.cells #[.string S] 51)) (by simp) (World.grownBy_alloc _ _ none) (fun r e => by cases e)
    have hb0 : Below w.heap.size w ((w1.alloc (.cells #[.string S] 51)).iter s 0) := (hb.alloc hb.size _).alloc (by have := hb.size; simp; omega) _
    go_wp2
    generalize (w1.alloc (.cells #[.string S] 51)).iter s 0 = W0 at hit0 hcl0 hb0 ⊢
    generalize hA : w1.heap.size = A at *
    go_loopw [8, 9] (fun _ _ wr => ∃ p : Nat, p ≤ s.size ∧ wr.heap[A + 1]? = some (.stringIter s p) ∧ wr.cell? ⟨A, 0, none⟩ = some (.string S) ∧ Below w.heap.size w wr ∧ (s.data.toList.take p).all (inV n) = true) (fun _ _ wr => s.size - wr.iterPos (A + 1))
    case atStart => exact ⟨0, Nat.zero_le _, hit0, hcl0, hb0, rfl⟩
    case round =>
      obtain ⟨p, hp, hit, hcl, hbw, hpre⟩ := hrel
      have HP := hid hpre
      clear hpre
      by_cases hlt : p < s.size
      · have hnx : ∀ ty, (Instr.next (.pointer (some ⟨A + 1, 0, none⟩)) true ty).run Tryd.prog wr = _ := fun ty => Lib.run_next_any_at wr (A + 1) s p ty hit hlt
        have hv := hid (dec_valid s p)
        have hin := hid (HI.out p hlt)
        have hwd : 1 ≤ (Utf8.decode s p).2 := by
          rw [dec_wd]
          exact (wd_pos (by rw [Ne, List.drop_eq_nil_iff]; simp; omega)).1
        have hlow := hid (dec_low s p hlt)
        have hit2 := Lib.iterAt_heap wr (A + 1) s p (p + (Utf8.decode s p).2) hit
        have hcl2 : (wr.iterAt (A + 1) s (p + (Utf8.decode s p).2)).cell? ⟨A, 0, none⟩ = some (.string S) := (World.cell?_of_block (Lib.iterAt_other wr (A + 1) A s _ (by omega))).trans hcl
        have hbw2 := Lib.below_iterAt hbw (k := A + 1) (by have := hb.size; omega) s (p + (Utf8.decode s p).2)
        generalize (Utf8.decode s p).1 = R at *
        generalize (Utf8.decode s p).2 = K at *
        generalize wr.iterAt (A + 1) s (p + K) = W at *
        have hpos := hid (show wr.iterPos (A + 1) = p by simp [World.iterPos, hit])
        clear hit hcl hbw
        have HCL : Hid _ := hid (HH.out R hv.out W)
        go_wp2_with fail
        refine HCL.out.mono ?_
        rintro e W2 ⟨rfl, hb2⟩
        have hAW : A + 1 < W.heap.size := (Array.getElem?_eq_some_iff.1 hit2).1
        have hit3 := (hb2.block (A + 1) hAW).trans hit2
        have hcl3 := (hb2.cell (p := ⟨A, 0, none⟩) (by show A < _; omega)).trans hcl2
        have hb3 : Below w.heap.size w W2 := hbw2.trans (hb2.mono hbw2.size)
        clear hit2 hcl2 hbw2 HCL
        have hin := hin.out
        cases hr : inR n R
        · go_wp2
          go_returns
          rw [hr] at hin
          have hset : n = 88 ∨ n = 89 ∨ n = 90 := by
            have h := HS.out
            simp only [isSetV, Bool.or_eq_true, beq_iff_eq] at h
            omega
          have hf := firstNo_eq HP.out (by simp; omega) (.inr ⟨by simpa using hlt, by rw [← hin.symm]; rfl⟩)
          have e : cv = (p, 15) := by
            rw [← HC.out, chkV, if_pos hset, hf, if_neg (by simp; omega)]
          subst e
          exact ⟨rfl, hb3⟩
        · go_wp2
          go_roundw
          case rel =>
            rw [hr] at hin
            obtain ⟨_, hK⟩ := hlow.out (inR_yes hr)
            subst hK
            exact ⟨p + 1, by omega, hit3, hcl3, hb3, by rw [take_snoc s p hlt, List.all_append, HP.out, List.all_cons, ← hin]; rfl⟩
          case measure =>
            have e2 : W2.iterPos (A + 1) = p + K := by simp [World.iterPos, hit3]
            rw [e2, hpos.out]
            omega
      · have hnx : ∀ ty, (Instr.next (.pointer (some ⟨A + 1, 0, none⟩)) true ty).run Tryd.prog wr = _ := fun ty => Lib.run_next_end_at wr (A + 1) s p ty hit hlt
        obtain rfl : p = s.size := by omega
        go_wp2
        go_returns
        have hset : n = 88 ∨ n = 89 ∨ n = 90 := by
          have h := HS.out
          simp only [isSetV, Bool.or_eq_true, beq_iff_eq] at h
          omega
        have hf := firstNo_eq HP.out (by simp) (.inl (by simp))
        have e : cv = (s.size, 0) := by
          rw [← HC.out, chkV, if_pos hset, hf, if_pos (by simp)]
        subst e
        exact ⟨rfl, hbw⟩
end Go.Proofs.YtgdiejjjlchkpaaDoor
