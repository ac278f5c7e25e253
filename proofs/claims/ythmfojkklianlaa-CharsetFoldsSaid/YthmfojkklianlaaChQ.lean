/-
  The program's contracts for sets of characters and folded lines: Substitute, Join.
-/
import Derived.Test.YthmfojkklianlaaChP
import Derived.Lib.AppendStr
import Derived.Laws.MakeOwn
namespace Go.Proofs.Ythmfojkklianlaa
open Go.RowKit

theorem u8_info : (Try.prog.info? 5).map (fun i => (i.zero, i.size, i.bytes)) = some (some (.int .u8 0), 1, 1) := by kernel_rfl
/-- Bytes, as cells. -/
def u8V (l : List UInt8) : List Value := l.map fun c => Value.int .u8 (c.toNat : Int)
theorem u8V_len (l : List UInt8) : (u8V l).length = l.length := by simp [u8V]
theorem u8V_snoc (l : List UInt8) (c : UInt8) : u8V (l ++ [c]) = u8V l ++ [.int .u8 (c.toNat : Int)] := by simp [u8V]
theorem own_iterC {w : World} {B e size n : Nat} {v : Value} {xs : List Value} {k : Nat} {s : ByteArray} {pos : Nat} (h : w.ownsRow B e size v n xs) (hk : w.heap[k]? = some (.stringIter s pos)) (pos' : Nat) : (w.iterAt k s pos').ownsRow B e size v n xs := by
  refine ⟨h.1, ?_⟩
  rcases h.2 with h0 | ⟨g, cap, cur, hv, hb, hg, rest⟩
  · exact .inl h0
  · refine .inr ⟨g, cap, cur, hv, hb, ?_, rest⟩
    rw [Lib.iterAt_other _ _ _ _ _ (fun e => by subst e; rw [hk] at hg; cases hg)]
    exact hg
theorem own_neC {w : World} {B e size n : Nat} {v : Value} {xs : List Value} {k : Nat} {s : ByteArray} {pos : Nat} (h : w.ownsRow B e size v n xs) (hk : w.heap[k]? = some (.stringIter s pos)) : some k ≠ v.ownBlock := by
  rcases h.2 with ⟨rfl, _⟩ | ⟨g, cap, cur, rfl, hb, hg, rest⟩
  · simp [Value.ownBlock]
  · intro e
    simp only [Value.ownBlock, Option.some.injEq] at e
    subst e
    rw [hk] at hg
    cases hg
theorem own_neD {w : World} {B e size n : Nat} {v : Value} {xs : List Value} (h : w.ownsRow B e size v n xs) {k : Nat} (hk : k < B) : some k ≠ v.ownBlock := by
  intro e
  have := (h.lt k e.symm).1
  omega
/-- One owned row stays while a call makes its own blocks. -/
theorem own_below {w w' : World} {B e size n : Nat} {v : Value} {xs : List Value} (h : w.ownsRow B e size v n xs) (hb : Below w.heap.size w w') : w'.ownsRow B e size v n xs := by
  refine ⟨h.1, ?_⟩
  rcases h.2 with h0 | ⟨g, cap, cur, hv, hB, hg, rest⟩
  · exact .inl h0
  · exact .inr ⟨g, cap, cur, hv, hB, (hb.block g (Array.getElem?_eq_some_iff.1 hg).1).trans hg, rest⟩

/-- What a character at a place becomes. -/
theorem sub_at (s : ByteArray) (p : Nat) (h : p < s.size) : subL (s.data.toList.drop p) = (if inR 88 (Utf8.decode s p).1 then UInt8.ofNat (Utf8.decode s p).1 else 46) :: subL (s.data.toList.drop (p + (Utf8.decode s p).2)) := by
  have hne : s.data.toList.drop p ≠ [] := by rw [Ne, List.drop_eq_nil_iff]; simp; omega
  have hd : s.data.toList.drop p = s[p] :: s.data.toList.drop (p + 1) := by
    rw [List.drop_eq_getElem_cons (by simpa using h)]; rfl
  have hw := dec_wd s p
  rw [subL, charsL_cons hne, List.map_cons, ← hw, List.drop_drop]
  refine congrArg (fun c => c :: List.map subC (charsL (List.drop (p + (Utf8.decode s p).2) s.data.toList))) ?_
  rw [inR_at 88 s p h]
  by_cases hr : (Utf8.decode s p).1 < 128
  · obtain ⟨h1, h2⟩ := dec_low s p h hr
    rw [h2, h1, UInt8.ofNat_toNat, hd]
    rfl
  · have hb := dec_high s p h (by omega)
    have hno : inV 88 s[p] = false := by
      cases hv : inV 88 s[p]
      · rfl
      · have := inV_low hv; omega
    have hno2 : inX s[p] = false := hno
    rw [hno]
    simp only [Bool.false_eq_true, if_false]
    have hk := wd_pos hne
    rw [← hw] at hk
    obtain ⟨k, hk2⟩ : ∃ k, (Utf8.decode s p).2 = k + 1 := ⟨(Utf8.decode s p).2 - 1, by omega⟩
    rw [hk2, hd, List.take_succ_cons]
    cases hx : (s.data.toList.drop (p + 1)).take k with
    | nil => show (if inX s[p] then s[p] else 46) = 46; rw [hno2]; rfl
    | cons => rfl

set_option maxRecDepth 100000 in
set_option maxHeartbeats 4000000 in
theorem chsubst_any (s : ByteArray) (hs : s.size ≤ 4000) (w : World) :
    Calls Try.prog 8 #[.string s] w fun e w' => e = .returned (.string ⟨(subL s.data.toList).toArray⟩) ∧ Below w.heap.size w w' := by
  obtain ⟨i0, hi, hz0, hz1, hz2⟩ := info_parts u8_info
  have HH := hid (fun (r : Nat) (hv : Utf8.valid r = true) (w' : World) => alphHas_any 88 r hv w')
  go_enter Try.func8, Try.ntmps8
  go_wp2_with fail
  refine (alphabets_any w).mono ?_
  rintro e w1 ⟨rfl, hb, hl⟩
  have hk : (Instr.lookup 41 (.map (some w.heap.size)) (.int .u8 88) false).run Try.prog w1 = .ok (.agg #[.string (alphS 88)]) w1 := hl 88 (by omega) false
  clear hl
  generalize alphS 88 = S at hk HH ⊢
  obtain ⟨w2, hmk, hown0, hg0⟩ := run_make_own (P := Try.prog) (w1.alloc (.cells #[.string S] 39)) (w1.heap.size + 1) 44 5 i0 _ 1 Try.underlying44 hi hz0 hz1 .i64 .i64 s.size (by rw [hz2]; omega) (by unfold maxLen; omega) (by simp)
  have hsz1 : (w1.alloc (.cells #[.string S] 39)).heap.size = w1.heap.size + 1 := by simp
  have hb2 : Below w.heap.size w w2 := (hb.alloc hb.size _).grown hg0 (by have := hb.size; simp; omega) (fun k e => by cases e)
  have hcl0 : w2.cell? ⟨w1.heap.size, 0, none⟩ = some (.string S) := cell_kept (W := w1.alloc (.cells #[.string S] 39)) (by simp) hg0 (fun r e => by cases e)
  have hA2 : w1.heap.size + 1 ≤ w2.heap.size := by have := hg0.size; omega
  have hwA : w.heap.size ≤ w1.heap.size := hb.size
  rw [hsz1] at hown0 hmk
  generalize hA : w1.heap.size = A at *
  go_wp2
  go_loopw [4, 6] (fun v _ wr => ∃ (p : Nat) (acc : List UInt8), p ≤ s.size ∧ acc ++ subL (s.data.toList.drop p) = subL s.data.toList ∧ acc.length ≤ p ∧ wr.ownsRow (A + 1) 5 1 v acc.length (u8V acc) ∧ wr.heap[w2.heap.size]? = some (.stringIter s p) ∧ wr.cell? ⟨A, 0, none⟩ = some (.string S) ∧ Below w.heap.size w wr ∧ v ≠ .slice none 0 0) (fun _ _ wr => s.size - wr.iterPos w2.heap.size)
  case atStart => exact ⟨0, [], Nat.zero_le _, rfl, Nat.le_refl _, hown0.alloc _, World.iter_heap w2 s 0, (World.cell?_alloc_lt w2 (.stringIter s 0) (a := ⟨A, 0, none⟩) (Nat.lt_of_succ_le hA2)).trans hcl0, hb2.alloc hb2.size _, fun e => by cases e⟩
  case round =>
    obtain ⟨p, acc, hp, hacc, hap, hown, hit, hcl, hbw, hnn⟩ := hrel
    have HNN := hid hnn
    clear hnn
    have HAC := hid hacc
    clear hacc
    by_cases hlt : p < s.size
    · have hnx : ∀ ty, (Instr.next (.pointer (some ⟨w2.heap.size, 0, none⟩)) true ty).run Try.prog wr = _ := fun ty => Lib.run_next_any_at wr w2.heap.size s p ty hit hlt
      have hv := hid (dec_valid s p)
      have hsub := hid (sub_at s p hlt)
      have hwd : 1 ≤ (Utf8.decode s p).2 ∧ p + (Utf8.decode s p).2 ≤ s.size := by
        rw [dec_wd]
        have h := wd_pos (l := s.data.toList.drop p) (by rw [Ne, List.drop_eq_nil_iff]; simp; omega)
        simp at h
        omega
      have hpos := hid (show wr.iterPos w2.heap.size = p by simp [World.iterPos, hit])
      have hit2 := Lib.iterAt_heap wr w2.heap.size s p (p + (Utf8.decode s p).2) hit
      have hcl2 : (wr.iterAt w2.heap.size s (p + (Utf8.decode s p).2)).cell? ⟨A, 0, none⟩ = some (.string S) := (World.cell?_of_block (Lib.iterAt_other wr w2.heap.size A s _ (by omega))).trans hcl
      have hbw2 := Lib.below_iterAt hbw (k := w2.heap.size) hb2.size s (p + (Utf8.decode s p).2)
      have hown2 := own_iterC hown hit (p + (Utf8.decode s p).2)
      generalize (Utf8.decode s p).1 = R at *
      generalize (Utf8.decode s p).2 = K at *
      generalize wr.iterAt w2.heap.size s (p + K) = W at *
      clear hit hcl hbw hown hk hown0 hmk hcl0 hg0
      have HCL : Hid _ := hid (HH.out R hv.out W)
      go_wp2_with fail
      refine HCL.out.mono ?_
      rintro e W2 ⟨rfl, hbc⟩
      have hITW : w2.heap.size < W.heap.size := (Array.getElem?_eq_some_iff.1 hit2).1
      have hit3 := (hbc.block w2.heap.size hITW).trans hit2
      have hcl3 := (hbc.cell (p := ⟨A, 0, none⟩) (by show A < _; omega)).trans hcl2
      have hb3 : Below w.heap.size w W2 := hbw2.trans (hbc.mono hbw2.size)
      have hown3 := own_below hown2 hbc
      have hITW2 : w2.heap.size < W2.heap.size := Nat.lt_of_lt_of_le hITW hbc.size
      clear hit2 hcl2 hbw2 HCL hown2 hbc
      cases hr : inR 88 R
      · have hnext : (acc ++ [46]) ++ subL (s.data.toList.drop (p + K)) = subL s.data.toList := by
          rw [← HAC.out, hsub.out, hr]; simp
        have HN := hid hnext
        clear hnext
        go_wp2_with (at_builtin; refine Lib.wpList_append_own_string _ rfl _ _ 44 9 rfl (A + 1) 5 i0 Try.underlying44 Try.underlying9 hi hz0 hz1 hz2 _ _ _ rfl hown3 ⟨#[46]⟩ rfl ?c3 ?c4 ?c5 ?_)
        case c3 => show acc.length + 1 ≤ _; unfold maxLen; omega
        case c4 => show acc.length + 1 ≤ _; omega
        case c5 => omega
        intro v' W3 hown4 hgrow hnil
        have HNN2 : Hid (v' ≠ .slice none 0 0) := hid hnil
        clear hnil
        have hb4 : Below w.heap.size w W3 := hb3.grown hgrow (by omega) (fun j hj => by have := (hown3.lt j hj).1; omega)
        have hit4 := (hgrow.block w2.heap.size hITW2 (own_neC hown3 hit3)).trans hit3
        have hcl4 := (World.cell?_of_block (a := ⟨A, 0, none⟩) (hgrow.block A (by omega) (own_neD hown3 (by omega)))).trans hcl3
        have HO := hid hown4
        clear hgrow hown3 hit3 hcl3 hb3 hown4
        go_wp2
        go_roundw
        case rel => exact ⟨p + K, acc ++ [46], hwd.2, HN.out, by simp; omega, by rw [List.length_append, u8V_snoc]; exact HO.out, hit4, hcl4, hb4, HNN2.out⟩
        case measure =>
          have e2 : W3.iterPos w2.heap.size = p + K := by simp [World.iterPos, hit4]
          rw [e2, hpos.out]
          omega
      · have hR := inR_yes hr
        have hwr : IntKind.u8.wrap (R : Int) = (R : Int) := IntWalk.u8_in _ ⟨by omega, by omega⟩
        have hnext : (acc ++ [UInt8.ofNat R]) ++ subL (s.data.toList.drop (p + K)) = subL s.data.toList := by
          rw [← HAC.out, hsub.out, hr]; simp
        have HN := hid hnext
        clear hnext
        have hRn : ((UInt8.ofNat R).toNat : Int) = (R : Int) := by simp; omega
        go_wp2_with (at_builtin; refine wpList_append_own _ rfl _ _ 44 rfl (A + 1) 5 i0 (.int .u8 0) 1 1 Try.underlying44 hi hz0 hz1 hz2 rfl (by decide) _ _ _ rfl (hown3.alloc _) ⟨W2.heap.size, 0, none⟩ 1 1 [.int .u8 (R : Int)] rfl rfl ?c1 ?c2 ?c3 ?c4 ?c5 ?_)
        case c1 =>
          intro j u hj
          match j, hj with
          | 0, hj => simp at hj; subst hj; simp [Addr.add]
        case c2 => intro u hu; simp at hu; subst hu; rfl
        case c3 => unfold maxLen; omega
        case c4 => omega
        case c5 => simp; omega
        intro v' W3 hown4 hgrow hnil
        have HNN2 : Hid (v' ≠ .slice none 0 0) := hid hnil
        clear hnil
        have hb4 : Below w.heap.size w W3 := (hb3.alloc hb3.size _).grown hgrow (by have := hb3.size; simp; omega) (fun j hj => by have := (hown3.lt j hj).1; omega)
        have hit4 := (hgrow.block w2.heap.size (by simp; omega) (own_neC hown3 hit3)).trans ((Below.heap_alloc W2 _ _ hITW2).trans hit3)
        have hcl4 := (World.cell?_of_block (a := ⟨A, 0, none⟩) (hgrow.block A (by simp; omega) (own_neD hown3 (by omega)))).trans ((World.cell?_alloc_lt W2 _ (a := ⟨A, 0, none⟩) (by show A < _; omega)).trans hcl3)
        have HO := hid hown4
        clear hgrow hown3 hit3 hcl3 hb3 hown4
        go_wp2
        go_roundw
        case rel => exact ⟨p + K, acc ++ [UInt8.ofNat R], hwd.2, HN.out, by simp; omega, by rw [List.length_append, u8V_snoc, hRn]; exact HO.out, hit4, hcl4, hb4, HNN2.out⟩
        case measure =>
          have e2 : W3.iterPos w2.heap.size = p + K := by simp [World.iterPos, hit4]
          rw [e2, hpos.out]
          omega
    · have hnx : ∀ ty, (Instr.next (.pointer (some ⟨w2.heap.size, 0, none⟩)) true ty).run Try.prog wr = _ := fun ty => Lib.run_next_end_at wr w2.heap.size s p ty hit hlt
      obtain rfl : p = s.size := by omega
      have hall : subL s.data.toList = acc := by
        rw [← HAC.out, List.drop_of_length_le (by simp)]
        simp [subL, charsL_nil]
      have HALL := hid hall
      clear hall
      rcases hown.2 with ⟨e, _⟩ | ⟨g, cap, cur, rfl, _⟩
      · exact (HNN.out e).elim
      · have hcs := hown.cells (g := g) rfl
        have hcv := run_convert_bytes_back (P := Try.prog) wr 44 9 5 ⟨g, 0, none⟩ cap acc Try.underlying44 Try.underlying5 Try.underlying9 (fun j hj => hcs j _ (by simp [u8V, hj]))
        clear hcs hown
        go_wp2
        go_returns
        exact ⟨by rw [HALL.out]; rfl, hbw⟩
end Go.Proofs.Ythmfojkklianlaa
