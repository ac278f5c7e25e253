/-
  The digits of a text: the iterator of package decimal, as a contract for every loop body.
-/
import Derived.Test.YtjpndajbkemnlaaDoorDecA
import Derived.RangeFuncNested
import Derived.RangeFuncBound
import Derived.RangeFuncCalls
import Derived.RangeFuncLeaves
import Derived.Shelf.Abstract
import Derived.Shelf.RegionOpen
import Derived.OwnWalkIn
import Derived.TacticsInMore
import Derived.LoopNIn
import Derived.LoopIn
import Derived.Handy
namespace Go.Proofs.YtjpndajbkemnlaaDoor
open Go.RowKit Go.Shelf
attribute [local go_sem] Oper.semAt_some

/-- Byte i of a text, as a number (0 beyond its end). -/
def bt (s : ByteArray) (i : Nat) : Nat := (s.data.toList[i]?.getD 0).toNat
/-- Is it a digit? -/
def isDg (s : ByteArray) (i : Nat) : Bool := decide (48 ≤ bt s i) && decide (bt s i ≤ 57)
/-- A place of a text, below 2^63, at which a digit stands. -/
abbrev Dg (s : ByteArray) := { i : Nat // i < s.size ∧ 48 ≤ bt s i ∧ bt s i ≤ 57 }
abbrev Dg.encs {s : ByteArray} (x : Dg s) : Array Value := #[.int .i64 (x.1 : Nat), .int .i64 ((bt s x.1 : Int) - 48)]

/-- The first cell of block B is kept. -/
def KeepsCell (B : Nat) (W W' : World) : Prop := ∀ v, W.cell? ⟨B, 0, none⟩ = some v → W'.cell? ⟨B, 0, none⟩ = some v
theorem keepsCell_t {B : Nat} {X Y Z : World} (h : KeepsCell B X Y) (k : KeepsCell B Y Z) : KeepsCell B X Z := fun v hv => k v (h v hv)
theorem keepsCell_b {B : Nat} {w : World} (W : World) (l : Nat) (o o' : Obj) (_ : w.heap.size ≤ l) (h : W.heap[l]? = some o) (ho : o.isCells = false) (_ : o.isWalk = false) : KeepsCell B W (W.putObj l o') :=
  fun _ hv => cell_kept hv (grownBy_putObj' W l o') (fun r e => by cases e; exact ⟨o, h, ho⟩)
theorem keepsCell_refl (B : Nat) (W : World) : KeepsCell B W W := fun _ hv => hv
theorem keepsCell_set {B : Nat} (W : World) (p : Addr) (u : Value) (hp : p.block ≠ B) : KeepsCell B W (W.setCell p u) :=
  fun _ hv => (World.cell?_setCell_other _ _ _ _ (fun e => hp (by rw [e]))).trans hv

set_option maxRecDepth 100000 in
set_option maxHeartbeats 1000000 in
theorem digits1_in (F : Fence) (n : Nat) (hf : F.fn 52) (hro : F.round = none) (hn : 1 ≤ n) (l Bs : Nat) (s : ByteArray) (hs : s.size ≤ 9223372036854775807) (J Jx : List (Dg s) → World → Prop)
    (hY : ∀ pre x W, J pre W → pre.length < s.size → YieldAt F (n - 1) Tryd.prog l (Dg.encs x) W fun e W' =>
      (e = .returned (.bool true) ∧ J (pre ++ [x]) W' ∧ KeepsCell Bs W W') ∨ (e = .returned (.bool false) ∧ Jx (pre ++ [x]) W'))
    (W : World) (hBs : W.cell? ⟨Bs, 0, none⟩ = some (.string s)) (h0 : J [] W) :
    CallsIn F n Tryd.prog 52 #[.func (.yield l) #[] #[], .pointer (some ⟨Bs, 0, none⟩)] W fun e W' => (∃ v, e = .returned v) ∧
      ((∃ ys : List (Dg s), (ys.map (·.1) = List.range ys.length ∧ (ys.length = s.size ∨ isDg s ys.length = false)) ∧ J ys W') ∨ (∃ pre : List (Dg s), pre.map (·.1) = List.range pre.length ∧ Jx pre W')) := by
  refine callsIn_of_wp Tryd.func52 rfl hf ?_ hro
  simp only [Tryd.ntmps52, List.size_toArray, List.length_cons, List.length_nil, Nat.reduceAdd, Nat.reduceSub, Array.replicate_succ, Array.replicate_zero, List.push_toArray, List.append_toArray, List.nil_append, List.cons_append]
  gi_wp2
  gi_loopw [6] (fun i wr => ∃ ys : List (Dg s), ys.length ≤ s.size ∧ ys.map (·.1) = List.range ys.length ∧ i = .int .i64 (ys.length : Nat) ∧ J ys wr ∧ wr.cell? ⟨Bs, 0, none⟩ = some (.string s))
    (fun i _ => s.size - (intOf i).toNat)
  case atStart => exact ⟨[], Nat.zero_le _, rfl, rfl, h0, hBs⟩
  case round =>
    obtain ⟨ys, hk, hr, rfl, hJs, hcx⟩ := hrel
    have HR := hid hr
    clear hr
    by_cases hlt : ys.length < s.size
    · have HY : Hid (∀ x : Dg s, YieldAt F (n - 1) Tryd.prog l (Dg.encs x) wr fun e W' => (e = .returned (.bool true) ∧ J (ys ++ [x]) W' ∧ KeepsCell Bs wr W') ∨ (e = .returned (.bool false) ∧ Jx (ys ++ [x]) W')) := fun x => hY ys x wr hJs hlt
      have HB : Hid ((s[ys.length]'hlt).toNat = bt s ys.length) := by
        show _ = _
        rw [bt, ByteArray.getElem_eq_getElem_data, List.getElem?_eq_getElem (by simpa using hlt)]
        rfl
      gi_wp2
      · have hb := HB.out
        obtain ⟨d, hd⟩ : ∃ d : Dg s, d.1 = ys.length := ⟨⟨ys.length, hlt, by omega, by omega⟩, rfl⟩
        obtain ⟨fn, tmps, assign, body, hy, hR⟩ := HY.out d
        dsimp only [Dg.encs] at hy
        rw [hd, ← hb] at hy
        have HD := hid hd
        clear hb hd
        rw [hy]
        gi_wp2
        refine hR.mono ?_
        rintro e W3 (⟨rfl, hJ3, hk3⟩ | ⟨rfl, hJx3⟩)
        · gi_wp2
          go_roundw
          case rel => exact ⟨ys ++ [d], by simp; omega, by simp [HR.out, HD.out, List.range_succ], by simp, hJ3, hk3 _ hcx⟩
          case measure => simp [intOf]; omega
        · gi_wp2
          refine bodyPost_ret (results_none rfl _ _ _) rfl ?_
          exact ⟨⟨_, rfl⟩, .inr ⟨ys ++ [d], by simp [HR.out, HD.out, List.range_succ], hJx3⟩⟩
      · refine ⟨fun _ h => (by cases h), ?_⟩
        gi_wp2
        refine bodyPost_ret (results_none rfl _ _ _) rfl ?_
        refine ⟨⟨_, rfl⟩, .inl ⟨ys, ⟨HR.out, .inr ?_⟩, hJs⟩⟩
        have := HB.out
        simp only [isDg, Bool.and_eq_false_iff, decide_eq_false_iff_not]
        omega
      · refine ⟨fun _ h => (by cases h), ?_⟩
        gi_wp2
        refine bodyPost_ret (results_none rfl _ _ _) rfl ?_
        refine ⟨⟨_, rfl⟩, .inl ⟨ys, ⟨HR.out, .inr ?_⟩, hJs⟩⟩
        have := HB.out
        simp only [isDg, Bool.and_eq_false_iff, decide_eq_false_iff_not]
        omega
    · gi_wp2
      go_end0
      exact ⟨⟨_, rfl⟩, .inl ⟨ys, ⟨HR.out, .inl (by omega)⟩, hJs⟩⟩

/-- All digits that the text begins with have come. -/
def Dg.all (s : ByteArray) (ys : List (Dg s)) : Prop := ys.map (·.1) = List.range ys.length ∧ (ys.length = s.size ∨ isDg s ys.length = false)
/-- Some of them have come. -/
def Dg.part (s : ByteArray) (ys : List (Dg s)) : Prop := ys.map (·.1) = List.range ys.length

/-- **'digits(s)' hands back a value that goes through the digits that s begins with.** -/
theorem digits_stops (F : Fence) (n : Nat) (hf : F.fn 52) (hro : F.round = none) (hn : 1 ≤ n) (Bs : Nat) (s : ByteArray) (hs : s.size ≤ 9223372036854775807) (w : World) (hBs : Bs < w.heap.size)
    (hc : w.cell? ⟨Bs, 0, none⟩ = some (.string s)) :
    SeqStopsK F n Tryd.prog 52 #[.pointer (some ⟨Bs, 0, none⟩)] Dg.encs (KeepsCell Bs) (Dg.all s) (Dg.part s) s.size w := fun l J Jx W hW _ _ hY h0 =>
  digits1_in F n hf hro hn l Bs s hs J Jx hY W ((hW.cell (p := ⟨Bs, 0, none⟩) hBs).trans hc) h0

set_option maxHeartbeats 400000 in
theorem digits_in (F : Fence) (n : Nat) (hf : F.fn 35) (hro : F.round = none) (s : ByteArray) (w : World) :
    CallsIn F n Tryd.prog 35 #[.string s] w fun e w' => e = .returned (.func (.func 52) #[] #[.pointer (some ⟨w.heap.size, 0, none⟩)]) ∧ w' = w.alloc (.cells #[.string s] 9) := by
  refine callsIn_of_wp Tryd.func35 rfl hf ?_ hro
  simp only [Tryd.ntmps35, List.size_toArray, List.length_cons, List.length_nil, Nat.reduceAdd, Nat.reduceSub, Array.replicate_succ, Array.replicate_zero, List.push_toArray, List.append_toArray, List.nil_append, List.cons_append]
  gi_wp2
  go_ret
  exact ⟨rfl, rfl⟩
end Go.Proofs.YtjpndajbkemnlaaDoor
