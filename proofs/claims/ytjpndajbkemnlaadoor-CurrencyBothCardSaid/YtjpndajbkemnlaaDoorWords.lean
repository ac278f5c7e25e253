/-
  The words of a text between which one blank stands: the iterator of package currency, as a contract for every loop body.
-/
import Derived.Test.YtjpndajbkemnlaaDoorDig
import Derived.Test.YtjpndajbkemnlaaDoorShelf
namespace Go.Proofs.YtjpndajbkemnlaaDoor
open Go.RowKit Go.Shelf
attribute [local go_sem] Oper.semAt_some

/-- A text, as its bytes, below 2^63. -/
abbrev Wrd := { l : List UInt8 // l.length ≤ 9223372036854775807 }
abbrev Wrd.str (x : Wrd) : Value := .string ⟨x.1.toArray⟩
abbrev Wrd.encs (x : Wrd) : Array Value := #[.string ⟨x.1.toArray⟩]

/-- The words of a text. -/
inductive Wd : List UInt8 → List Wrd → Prop
  | last (x : Wrd) : Lib.indexByte x.1 32 = -1 → Wd x.1 [x]
  | more (x : Wrd) (b : List UInt8) (xs : List Wrd) : Lib.indexByte (x.1 ++ 32 :: b) 32 = (x.1.length : Nat) → Wd b xs → Wd (x.1 ++ 32 :: b) (x :: xs)

set_option maxHeartbeats 400000 in
theorem cutw_none (l : List UInt8) (h : Lib.indexByte l 32 = -1) (w : World) :
    Calls Tryd.prog 14 #[.string ⟨l.toArray⟩, .string ⟨#[32]⟩] w fun e w' => e = .returned (.tuple #[.string ⟨l.toArray⟩, .string ⟨#[]⟩, .bool false]) ∧ w' = w := by
  have H := hid h
  clear h
  go_enter Tryd.func14, Tryd.ntmps14
  go_wp2_with (first | (go_at_call 34; with_reducible refine (Tryd.stringslite_Index_one _ _ _).mono ?_; rintro e w' ⟨rfl, rfl⟩; rw [show Lib.indexByte (⟨l.toArray⟩ : ByteArray).data.toList 32 = -1 from H.out]) | go_in)
  go_returns
  exact ⟨rfl, rfl⟩

theorem ext_take (a b : List UInt8) : (⟨(a ++ 32 :: b).toArray⟩ : ByteArray).extract 0 a.length = ⟨a.toArray⟩ := by
  apply ByteArray.ext
  apply Array.toList_inj.1
  simp [ByteArray.data_extract]
theorem ext_drop (a b : List UInt8) : (⟨(a ++ 32 :: b).toArray⟩ : ByteArray).extract (a.length + 1) (⟨(a ++ 32 :: b).toArray⟩ : ByteArray).size = ⟨b.toArray⟩ := by
  apply ByteArray.ext
  apply Array.toList_inj.1
  simp only [ByteArray.data_extract, ByteArray.size, Array.toList_extract, List.size_toArray, List.extract_eq_take_drop, List.length_append, List.length_cons]
  rw [show List.drop (a.length + 1) (a ++ 32 :: b) = b by simp]
  rw [List.take_of_length_le (by omega)]

set_option maxHeartbeats 400000 in
theorem cutw_some0 (s : ByteArray) (o : Nat) (h : Lib.indexByte s.data.toList 32 = o) (ho : o < s.size) (hs : s.size ≤ 9223372036854775807) (w : World) :
    Calls Tryd.prog 14 #[.string s, .string ⟨#[32]⟩] w fun e w' => e = .returned (.tuple #[.string (s.extract 0 o), .string (s.extract (o + 1) s.size), .bool true]) ∧ ∃ q, w' = w.drewN q := by
  have H := hid h
  clear h
  go_enter Tryd.func14, Tryd.ntmps14
  go_wp2_with (first | (go_at_call 34; with_reducible refine (Tryd.stringslite_Index_one _ _ _).mono ?_; rintro e w' ⟨rfl, rfl⟩; rw [H.out]) | go_in)
  go_quiet (fail)
  go_wp2
  go_returns
  exact ⟨rfl, _, rfl⟩

theorem cutw_some (a b : List UInt8) (h : Lib.indexByte (a ++ 32 :: b) 32 = (a.length : Nat)) (hs : (a ++ 32 :: b).length ≤ 9223372036854775807) (w : World) :
    Calls Tryd.prog 14 #[.string ⟨(a ++ 32 :: b).toArray⟩, .string ⟨#[32]⟩] w fun e w' => e = .returned (.tuple #[.string ⟨a.toArray⟩, .string ⟨b.toArray⟩, .bool true]) ∧ ∃ q, w' = w.drewN q := by
  have := cutw_some0 ⟨(a ++ 32 :: b).toArray⟩ a.length h (by simp [ByteArray.size]) hs w
  rw [ext_take, ext_drop] at this
  exact this

theorem grown_drewN (w : World) (n : Nat) (row : Option Nat) : w.grownBy (w.drewN n) row := ⟨rfl, rfl, rfl, Nat.le_refl _, fun _ _ _ => rfl⟩

/-- How much is left to be gone through. -/
def leftW (rest more : Value) : Nat := match rest, more with
  | .string s, .bool true => s.size + 1
  | _, _ => 0
theorem leftW_true (l : List UInt8) : leftW (.string ⟨l.toArray⟩) (.bool true) = l.length + 1 := rfl
theorem leftW_false (v : Value) : leftW v (.bool false) = 0 := by cases v <;> rfl

set_option maxRecDepth 100000 in
set_option maxHeartbeats 2000000 in
theorem words1_in (n : Nat) (hn : 1 ≤ n) (l Bs : Nat) (s : List UInt8) (hs : s.length ≤ 9223372036854775807) (xs : List Wrd) (hw : Wd s xs) (B : Nat) (J Jx : List Wrd → World → Prop) (hJ : AbidesFrom B J)
    (hY : ∀ pre x W, J pre W → pre.length < xs.length → YieldAt Fence.wide (n - 1) Tryd.prog l (Wrd.encs x) W fun e W' =>
      (e = .returned (.bool true) ∧ J (pre ++ [x]) W' ∧ KeepsCell Bs W W') ∨ (e = .returned (.bool false) ∧ Jx (pre ++ [x]) W'))
    (W : World) (hBs : W.cell? ⟨Bs, 0, none⟩ = some (.string ⟨s.toArray⟩)) (h0 : J [] W) :
    CallsIn Fence.wide n Tryd.prog 44 #[.func (.yield l) #[] #[], .pointer (some ⟨Bs, 0, none⟩)] W fun e W' => (∃ v, e = .returned v) ∧
      ((∃ ys, ys = xs ∧ J ys W') ∨ (∃ pre, pre <+: xs ∧ Jx pre W')) := by
  refine callsIn_of_wp Tryd.func44 rfl trivial ?_ rfl
  simp only [Tryd.ntmps44, List.size_toArray, List.length_cons, List.length_nil, Nat.reduceAdd, Nat.reduceSub, Array.replicate_succ, Array.replicate_zero, List.push_toArray, List.append_toArray, List.nil_append, List.cons_append]
  have hfC : Fence.wide.fn 14 := trivial
  gi_wp2
  gi_loopw [3, 4] (fun rest more wr => ∃ (pre todo : List Wrd), xs = pre ++ todo ∧ J pre wr ∧ ((∃ r, rest = .string ⟨r.toArray⟩ ∧ more = .bool true ∧ r.length ≤ 9223372036854775807 ∧ Wd r todo) ∨ (∃ r, rest = .string r ∧ more = .bool false ∧ todo = [])))
    (fun rest more _ => leftW rest more)
  case atStart => exact ⟨[], xs, rfl, h0, .inl ⟨s, rfl, rfl, hs, hw⟩⟩
  case round =>
    obtain ⟨pre, todo, hx, hJs, ⟨r, rfl, rfl, hr, hwr⟩ | ⟨r, rfl, rfl, rfl⟩⟩ := hrel
    · cases hwr with
      | last x hi =>
        have HY : Hid (∀ W1, J pre W1 → YieldAt Fence.wide (n - 1) Tryd.prog l (Wrd.encs x) W1 fun e W' => (e = .returned (.bool true) ∧ J (pre ++ [x]) W' ∧ KeepsCell Bs W1 W') ∨ (e = .returned (.bool false) ∧ Jx (pre ++ [x]) W')) := fun W1 hj => hY pre x W1 hj (by rw [hx]; simp)
        have HI := hid hi
        have HX := hid hx
        clear hi hx hY
        obtain ⟨fn, tmps, assign, body, hy, hR⟩ := HY.out wr hJs
        dsimp only [Wrd.encs] at hy
        gi_wp2_with (gi_at_call 14; refine (callsIn_wide.2 (cutw_none x.1 HI.out _)).mono ?_; rintro e w' ⟨rfl, rfl⟩)
        refine hR.mono ?_
        rintro e W3 (⟨rfl, hJ3, hk3⟩ | ⟨rfl, hJx3⟩)
        · gi_wp2
          go_roundw
          case rel => exact ⟨pre ++ [x], [], by simp [HX.out], hJ3, .inr ⟨_, rfl, rfl, rfl⟩⟩
          case measure => rw [leftW_false, leftW_true]; omega
        · gi_wp2
          refine bodyPost_ret (results_none rfl _ _ _) rfl ?_
          exact ⟨⟨_, rfl⟩, .inr ⟨pre ++ [x], ⟨[], by simp [HX.out]⟩, hJx3⟩⟩
      | more x b xs' hi hwb =>
        have HY : Hid (∀ W1, J pre W1 → YieldAt Fence.wide (n - 1) Tryd.prog l (Wrd.encs x) W1 fun e W' => (e = .returned (.bool true) ∧ J (pre ++ [x]) W' ∧ KeepsCell Bs W1 W') ∨ (e = .returned (.bool false) ∧ Jx (pre ++ [x]) W')) := fun W1 hj => hY pre x W1 hj (by rw [hx]; simp)
        have HI := hid hi
        have HX := hid hx
        have HW := hid hwb
        have hb : b.length ≤ 9223372036854775807 := by simp at hr; omega
        clear hi hx hY hwb
        gi_wp2_with (gi_at_call 14; refine (callsIn_wide.2 (cutw_some x.1 b HI.out hr _)).mono ?_; rintro e w' ⟨rfl, q, rfl⟩; obtain ⟨fn, tmps, assign, body, hy, hR⟩ := HY.out (wr.drewN q) (hJ pre wr _ none hJs (grown_drewN wr q none) (fun _ h => by cases h)); dsimp only [Wrd.encs] at hy)
        refine hR.mono ?_
        rintro e W3 (⟨rfl, hJ3, hk3⟩ | ⟨rfl, hJx3⟩)
        · gi_wp2
          go_roundw
          case rel => exact ⟨pre ++ [x], xs', by simp [HX.out], hJ3, .inl ⟨b, rfl, rfl, hb, HW.out⟩⟩
          case measure => rw [leftW_true, leftW_true]; simp; omega
        · gi_wp2
          refine bodyPost_ret (results_none rfl _ _ _) rfl ?_
          exact ⟨⟨_, rfl⟩, .inr ⟨pre ++ [x], ⟨xs', by simp [HX.out]⟩, hJx3⟩⟩
    · gi_wp2
      go_end0
      exact ⟨⟨_, rfl⟩, .inl ⟨pre, by simp [hx], hJs⟩⟩

/-- **'words(s)' hands back a value that goes through the words of s.** -/
theorem words_stops (n : Nat) (hn : 1 ≤ n) (Bs : Nat) (s : List UInt8) (hs : s.length ≤ 9223372036854775807) (xs : List Wrd) (hw : Wd s xs) (w : World) (hBs : Bs < w.heap.size)
    (hc : w.cell? ⟨Bs, 0, none⟩ = some (.string ⟨s.toArray⟩)) :
    SeqStopsK Fence.wide n Tryd.prog 44 #[.pointer (some ⟨Bs, 0, none⟩)] Wrd.encs (KeepsCell Bs) (fun ys => ys = xs) (fun pre => pre <+: xs) xs.length w := fun l J Jx W hW hJ _ hY h0 =>
  words1_in n hn l Bs s hs xs hw W.heap.size J Jx hJ hY W ((hW.cell (p := ⟨Bs, 0, none⟩) hBs).trans hc) h0

set_option maxHeartbeats 400000 in
theorem words_in (n : Nat) (s : List UInt8) (w : World) :
    CallsIn Fence.wide n Tryd.prog 30 #[.string ⟨s.toArray⟩] w fun e w' => e = .returned (.func (.func 44) #[] #[.pointer (some ⟨w.heap.size, 0, none⟩)]) ∧ w' = w.alloc (.cells #[.string ⟨s.toArray⟩] 9) := by
  refine callsIn_of_wp Tryd.func30 rfl trivial ?_ rfl
  simp only [Tryd.ntmps30, List.size_toArray, List.length_cons, List.length_nil, Nat.reduceAdd, Nat.reduceSub, Array.replicate_succ, Array.replicate_zero, List.push_toArray, List.append_toArray, List.nil_append, List.cons_append]
  gi_wp2
  go_ret
  exact ⟨rfl, rfl⟩

/-- The words, reckoned: 'acc' is what has been met of the first one, the last byte first. -/
def wds : List UInt8 → List UInt8 → List (List UInt8)
  | acc, [] => [acc.reverse]
  | acc, c :: r => if c = 32 then acc.reverse :: wds [] r else wds (c :: acc) r
theorem index_miss (a : List UInt8) (h : ¬ (32 : UInt8) ∈ a) : Lib.indexByte a 32 = -1 := by
  induction a with
  | nil => rfl
  | cons c a ih =>
    simp only [List.mem_cons, not_or] at h
    rw [Lib.indexByte, if_neg (by simpa using fun e => h.1 e.symm), if_pos (by simp [ih h.2])]
theorem index_hit (a b : List UInt8) (h : ¬ (32 : UInt8) ∈ a) : Lib.indexByte (a ++ 32 :: b) 32 = (a.length : Nat) := by
  induction a with
  | nil => rfl
  | cons c a ih =>
    simp only [List.mem_cons, not_or] at h
    rw [List.cons_append, Lib.indexByte, if_neg (by simpa using fun e => h.1 e.symm), if_neg (by rw [ih h.2]; simp), ih h.2]
    simp
/-- Words as values. -/
def wrds : List (List UInt8) → List Wrd
  | [] => []
  | a :: l => (if h : a.length ≤ 9223372036854775807 then [⟨a, h⟩] else []) ++ wrds l
theorem wd_wds (r : List UInt8) : ∀ acc : List UInt8, ¬ (32 : UInt8) ∈ acc → acc.length + r.length ≤ 9223372036854775807 → Wd (acc.reverse ++ r) (wrds (wds acc r)) := by
  induction r with
  | nil =>
    intro acc ha hl
    simp only [wds, wrds, List.append_nil]
    rw [dif_pos (by simpa using hl)]
    exact Wd.last ⟨acc.reverse, by simpa using hl⟩ (index_miss _ (by simpa using ha))
  | cons c r ih =>
    intro acc ha hl
    by_cases hc : c = 32
    · subst hc
      have h1 : acc.reverse.length ≤ 9223372036854775807 := by simp at hl ⊢; omega
      have h2 : ([] : List UInt8).length + r.length ≤ 9223372036854775807 := by simp only [List.length_cons, List.length_nil] at hl ⊢; omega
      simp only [wds, if_true, wrds]
      rw [dif_pos h1]
      exact Wd.more ⟨acc.reverse, h1⟩ r _ (index_hit _ _ (by simpa using ha)) (by simpa using ih [] (by simp) h2)
    · rw [wds, if_neg hc]
      have := ih (c :: acc) (by simp only [List.mem_cons, not_or]; exact ⟨fun e => hc e.symm, ha⟩) (by simp only [List.length_cons] at hl ⊢; omega)
      simpa using this
end Go.Proofs.YtjpndajbkemnlaaDoor
