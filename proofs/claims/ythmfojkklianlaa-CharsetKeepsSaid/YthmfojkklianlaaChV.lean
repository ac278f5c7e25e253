/-
  The program's pieces of a text: the iterator, as a contract for every loop body.
-/
import Derived.Test.YthmfojkklianlaaChL
import Derived.RangeFuncNested
import Derived.RangeFuncBound
import Derived.RangeFuncCalls
import Derived.RangeFuncLeaves
import Derived.RangeFuncBox
import Derived.RangeFuncWrites
import Derived.Shelf.Abstract
import Derived.Shelf.RegionOpen
import Derived.OwnWalkIn
import Derived.TacticsInMore
import Derived.LoopNIn
import Derived.LoopIn
import Derived.Stop.RegionWithIn
import Derived.Handy
namespace Go.Proofs.Ythmfojkklianlaa
open Go.RowKit Go.Shelf
attribute [local go_sem] Oper.semAt_some

/-- A piece of a text that is not too long. -/
abbrev Pc := { p : List UInt8 // p ≠ [] ∧ p.length ≤ 4000 }
abbrev Pc.encs (x : Pc) : Array Value := #[.string ⟨x.1.toArray⟩]
def leftP (rest : Value) : Nat := match rest with | .string s => s.size | _ => 0
theorem chunks_nil (W M : Nat) : chunks W M [] = [] := by cases M <;> simp [chunks]
/-- The cells of two boxes are kept. -/
def Keeps2 (B : Nat) (X Y : World) : Prop := (∀ v, X.cell? ⟨B, 0, none⟩ = some v → Y.cell? ⟨B, 0, none⟩ = some v) ∧ (∀ v, X.cell? ⟨B + 1, 0, none⟩ = some v → Y.cell? ⟨B + 1, 0, none⟩ = some v)
theorem keeps2_t {B : Nat} {X Y Z : World} (h : Keeps2 B X Y) (k : Keeps2 B Y Z) : Keeps2 B X Z := ⟨fun v hv => k.1 v (h.1 v hv), fun v hv => k.2 v (h.2 v hv)⟩
theorem keeps2_b {B : Nat} {w : World} (W : World) (l : Nat) (o o' : Obj) (_ : w.heap.size ≤ l) (h : W.heap[l]? = some o) (ho : o.isCells = false) (_ : o.isWalk = false) : Keeps2 B W (W.putObj l o') :=
  ⟨fun _ hv => cell_kept hv (grownBy_putObj' W l o') (fun r e => by cases e; exact ⟨o, h, ho⟩), fun _ hv => cell_kept hv (grownBy_putObj' W l o') (fun r e => by cases e; exact ⟨o, h, ho⟩)⟩
theorem keeps2_below {B : Nat} {X Y : World} (hb : Below X.heap.size X Y) : Keeps2 B X Y :=
  ⟨fun _ hv => (hb.cell (p := ⟨B, 0, none⟩) (World.block_lt_of_cell? _ _ hv)).trans hv, fun _ hv => (hb.cell (p := ⟨B + 1, 0, none⟩) (World.block_lt_of_cell? _ _ hv)).trans hv⟩

set_option maxRecDepth 100000 in
set_option maxHeartbeats 2000000 in
theorem pieces1_in (n : Nat) (hn : 1 ≤ n) (l Bs : Nat) (T : List UInt8) (hT : T.length ≤ 4000) (Wd : Nat) (hW : 1 ≤ Wd) (hW2 : Wd ≤ 9223372036854775807) (J Jx : List Pc → World → Prop)
    (hY : ∀ pre x W, J pre W → pre.length < T.length → YieldAt Fence.wide (n - 1) Try.prog l (Pc.encs x) W fun e W' =>
      (e = .returned (.bool true) ∧ J (pre ++ [x]) W' ∧ Keeps2 Bs W W') ∨ (e = .returned (.bool false) ∧ Jx (pre ++ [x]) W'))
    (W : World) (hB1 : W.cell? ⟨Bs, 0, none⟩ = some (.string ⟨T.toArray⟩)) (hB2 : W.cell? ⟨Bs + 1, 0, none⟩ = some (.int .i64 (Wd : Int))) (h0 : J [] W) :
    CallsIn Fence.wide n Try.prog 25 #[.func (.yield l) #[] #[], .pointer (some ⟨Bs, 0, none⟩), .pointer (some ⟨Bs + 1, 0, none⟩)] W fun e W' => (∃ v, e = .returned v) ∧
      ((∃ ys : List Pc, (∀ M, chunks Wd (ys.length + M) T = ys.map (·.1)) ∧ J ys W') ∨ (∃ pre : List Pc, chunks Wd pre.length T = pre.map (·.1) ∧ Jx pre W')) := by
  refine callsIn_of_wp Try.func25 rfl trivial ?_ rfl
  simp only [Try.ntmps25, List.size_toArray, List.length_cons, List.length_nil, Nat.reduceAdd, Nat.reduceSub, Array.replicate_succ, Array.replicate_zero, List.push_toArray, List.append_toArray, List.nil_append, List.cons_append]
  gi_wp2
  gi_loopw [4, 5] (fun rest _ wr => ∃ (r : List UInt8) (pre : List Pc), rest = .string ⟨r.toArray⟩ ∧ (∀ M, chunks Wd (pre.length + M) T = pre.map (·.1) ++ chunks Wd M r) ∧ pre.length + r.length ≤ T.length ∧ J pre wr ∧ wr.cell? ⟨Bs, 0, none⟩ = some (.string ⟨T.toArray⟩) ∧ wr.cell? ⟨Bs + 1, 0, none⟩ = some (.int .i64 (Wd : Int)))
    (fun rest _ _ => leftP rest)
  case atStart => exact ⟨T, [], rfl, fun M => by simp, by simp, h0, hB1, hB2⟩
  case round =>
    obtain ⟨r, pre, rfl, hch, hlen, hJs, hc1, hc2⟩ := hrel
    have HC := hid hch
    clear hch
    generalize hR : (⟨r.toArray⟩ : ByteArray) = R
    have hl : R.data.toList = r := by rw [← hR]
    have hRz : R.size = r.length := by rw [← hR]; rfl
    by_cases hr : r = []
    · have hq : (R.toList == []) = true := by rw [ByteArray.toList_eq, hl, hr]; rfl
      have HR := hid hr
      clear hr hl hRz hR
      gi_wp2
      go_end0
      exact ⟨⟨_, rfl⟩, .inl ⟨pre, fun M => by rw [HC.out M, HR.out, chunks_nil, List.append_nil], hJs⟩⟩
    · have hq : (R.toList == []) = false := by rw [ByteArray.toList_eq, hl]; simpa using hr
      obtain ⟨e, he⟩ : ∃ e : Nat, e = min Wd R.size := ⟨_, rfl⟩
      have hmin : min (Wd : Int) (R.size : Int) = (e : Int) := by
        rw [he, Int.min_def, Nat.min_def]
        split <;> split <;> omega
      have hr1 : 1 ≤ r.length := by
        cases r with
        | nil => exact (hr rfl).elim
        | cons => simp
      have hx1 : R.extract 0 e = ⟨(r.take Wd).toArray⟩ := ib_str_eq (by
        rw [ext_lst, hl, List.drop_zero, he, hRz]
        simp)
      have hx2 : R.extract e R.size = ⟨(r.drop Wd).toArray⟩ := ib_str_eq (by
        rw [ext_lst, take_all, hl, he, hRz]
        simp)
      have h1 : 1 ≤ e := by omega
      obtain ⟨x, hxv⟩ : ∃ x : Pc, x.1 = r.take Wd := ⟨⟨r.take Wd, fun h => by
          rw [List.take_eq_nil_iff] at h
          rcases h with h | h
          · omega
          · exact hr h, Nat.le_trans (by rw [List.length_take]; exact Nat.min_le_right _ _) (show r.length ≤ 4000 by omega)⟩, rfl⟩
      have hnext : ∀ M, chunks Wd ((pre ++ [x]).length + M) T = (pre ++ [x]).map (·.1) ++ chunks Wd M (r.drop Wd) := fun M => by
        have h := HC.out (M + 1)
        rw [chunks, if_neg hr, ← hxv] at h
        rw [List.length_append, List.length_singleton, show pre.length + 1 + M = pre.length + (M + 1) by omega, h]
        simp
      have HN := hid hnext
      have hl2 : (pre ++ [x]).length + (r.drop Wd).length ≤ T.length := by simp; omega
      have heR : e ≤ R.size := by omega
      have heI : (0 : Int) ≤ (e : Int) ∧ (e : Int) ≤ (R.size : Int) := by omega
      have hcl : chunks Wd (pre ++ [x]).length T = (pre ++ [x]).map (·.1) := by
        have h := hnext 0
        rw [chunks, List.append_nil] at h
        exact h
      have HCL := hid hcl
      have hsz : (r.drop Wd).length < R.size := by rw [List.length_drop]; omega
      rw [← hxv] at hx1
      obtain ⟨fn, tmps, assign, body, hy, hRd⟩ := hY pre x wr hJs (by omega)
      dsimp only [Pc.encs] at hy
      clear hnext hcl hr hl hR hxv he hRz hY
      gi_wp2
      refine hRd.mono ?_
      rintro en W3 (⟨rfl, hJ3, hk3⟩ | ⟨rfl, hJx3⟩)
      · have hd1 := hk3.1 _ hc1
        have hd2 := hk3.2 _ hc2
        gi_wp2
        go_roundw
        case rel => exact ⟨r.drop Wd, pre ++ [x], rfl, HN.out, hl2, hJ3, hd1, hd2⟩
        case measure => exact hsz
      · gi_wp2
        refine bodyPost_ret (results_none rfl _ _ _) rfl ?_
        exact ⟨⟨_, rfl⟩, .inr ⟨pre ++ [x], HCL.out, hJx3⟩⟩

theorem pieces_stops (n : Nat) (hn : 1 ≤ n) (Bs : Nat) (T : List UInt8) (hT : T.length ≤ 4000) (Wd : Nat) (hW : 1 ≤ Wd) (hW2 : Wd ≤ 9223372036854775807) (w : World) (hB : Bs + 1 < w.heap.size)
    (h1 : w.cell? ⟨Bs, 0, none⟩ = some (.string ⟨T.toArray⟩)) (h2 : w.cell? ⟨Bs + 1, 0, none⟩ = some (.int .i64 (Wd : Int))) :
    SeqStopsK Fence.wide n Try.prog 25 #[.pointer (some ⟨Bs, 0, none⟩), .pointer (some ⟨Bs + 1, 0, none⟩)] Pc.encs (Keeps2 Bs) (fun ys => ∀ M, chunks Wd (ys.length + M) T = ys.map (·.1)) (fun pre => chunks Wd pre.length T = pre.map (·.1)) T.length w :=
  fun l J Jx W hW0 _ _ hY h0 => pieces1_in n hn l Bs T hT Wd hW hW2 J Jx hY W ((hW0.cell (p := ⟨Bs, 0, none⟩) (by show Bs < _; omega)).trans h1) ((hW0.cell (p := ⟨Bs + 1, 0, none⟩) hB).trans h2) h0

theorem pieces_any (S : ByteArray) (Wd : Int) (w : World) :
    Calls Try.prog 19 #[.string S, .int .i64 Wd] w fun e w' => e = .returned (.func (.func 25) #[] #[.pointer (some ⟨w.heap.size, 0, none⟩), .pointer (some ⟨w.heap.size + 1, 0, none⟩)]) ∧ w' = (w.alloc (.cells #[.string S] 9)).alloc (.cells #[.int .i64 Wd] 3) := by
  go_enter Try.func19, Try.ntmps19
  go_wp2
  go_returns
  exact ⟨rfl, rfl⟩
end Go.Proofs.Ythmfojkklianlaa
