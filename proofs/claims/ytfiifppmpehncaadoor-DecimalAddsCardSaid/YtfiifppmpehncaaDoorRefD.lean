/-
  The document's own answers: at, size.
-/
import Derived.Test.YtfiifppmpehncaaDoorRefP
import Derived.Test.YtfiifppmpehncaaDoorRefT
import Derived.Test.YtfiifppmpehncaaDoorMath
import Derived.Deep.QuietTactic
import Derived.BigQuiet
import Derived.StillTailTactics
namespace Go.Proofs.YtfiifppmpehncaaDoor
open Go.RowKit Go.Shelf

/-- The last m digits, the least first. -/
def fd (W m : Nat) : List Value := (List.range m).map fun i => Value.int .i64 ((sh W i % 10 : Nat) : Int)
theorem fd_succ (W m : Nat) : fd W (m + 1) = fd W m ++ [.int .i64 ((sh W m % 10 : Nat) : Int)] := by
  rw [fd, List.range_succ, List.map_append]; rfl
theorem fd_get (W m i : Nat) (h : i < m) : (fd W m)[i]? = some (.int .i64 ((sh W i % 10 : Nat) : Int)) := by
  rw [fd, List.getElem?_map, List.getElem?_range h]; rfl
/-- A number's size, in units of 10^-5. -/
def aw (c s : Nat) : Nat := c * 10 ^ (5 - s)
theorem aw_low (c s j : Nat) (h : j < 5 - s) : sh (aw c s) j % 10 = 0 := by
  obtain ⟨d, hd⟩ : ∃ d, 5 - s = j + (d + 1) := ⟨5 - s - j - 1, by omega⟩
  have e : aw c s = 10 ^ j * (c * 10 ^ d * 10) := by
    rw [aw, hd, Nat.pow_add, Nat.pow_succ]; ac_rfl
  rw [sh, e, Nat.mul_div_cancel_left _ (Nat.pos_of_ne_zero (by simp))]
  omega
theorem aw_top (c s : Nat) (_h : s ≤ 5) : sh (aw c s) (5 - s) = c := by
  rw [sh, aw, Nat.mul_div_cancel _ (Nat.pos_of_ne_zero (by simp))]
theorem aw_lt (c s : Nat) (hc : c < 1000000000000000000) : aw c s < 10 ^ 23 := by
  have h1 : 10 ^ (5 - s) ≤ 10 ^ 5 := Nat.pow_le_pow_right (by omega) (by omega)
  have h2 : c * 10 ^ (5 - s) ≤ c * 10 ^ 5 := Nat.mul_le_mul_left c h1
  have h3 : (10 : Nat) ^ 23 = 1000000000000000000 * 10 ^ 5 := by decide
  rw [h3, aw]
  omega
theorem sh_anti (W : Nat) {a b : Nat} (h : a ≤ b) : sh W b ≤ sh W a :=
  Nat.div_le_div_left (Nat.pow_le_pow_right (by omega) h) (Nat.pos_of_ne_zero (by simp))
theorem owns_slice {w : World} {base : Nat} {e : TypeId} {size n : Nat} {v : Value} {xs : List Value} (h : w.ownsRow base e size v n xs) : ∃ a cap, v = .slice a n cap := by
  obtain ⟨_, ⟨rfl, rfl⟩ | ⟨g, cap, _, rfl, _⟩⟩ := h
  · exact ⟨none, 0, rfl⟩
  · exact ⟨_, cap, rfl⟩
/-- A slice's length. -/
def slen : Value → Nat
  | .slice _ n _ => n
  | _ => 0
theorem sh_lt {W m k : Nat} (h : W < 10 ^ (m + k)) : sh W m < 10 ^ k := by
  rw [sh, Nat.div_lt_iff_lt_mul (Nat.pos_of_ne_zero (by simp)), ← Nat.pow_add, Nat.add_comm]; exact h
/-- Digits have come, the least first. -/
def AtInv (w0 : World) (W m : Nat) (v : Value) (wr : World) : Prop := wr.ownsRow w0.heap.size 2 1 v m (fd W m) ∧ Below w0.heap.size w0 wr
theorem AtInv.app {w0 wr w1 : World} {W m : Nat} {v v' : Value} {o : Obj} (h : AtInv w0 W m v wr) (hd : ∃ x : Int, x = ((sh W m % 10 : Nat) : Int) ∧ w1.ownsRow w0.heap.size 2 1 v' (m + 1) (fd W m ++ [.int .i64 x])) (hg : (wr.alloc o).grownBy w1 v.ownBlock) : AtInv w0 W (m + 1) v' w1 := by
  obtain ⟨x, rfl, h1⟩ := hd
  exact ⟨by rw [fd_succ]; exact h1, (h.2.alloc h.2.size _).grown hg (by have := h.2.size; simp; omega) (fun j hj => (h.1.lt j hj).1)⟩

set_option maxRecDepth 1000000 in
set_option maxHeartbeats 3200000 in
theorem refAt_any (g : Bool) (c s : Nat) (w : World) (hc : c < 1000000000000000000) (hs : s ≤ 5) :
    Calls Tryd.prog 34 #[.agg #[.bool g, .int .i64 c, .int .i64 s]] w fun e w' => ∃ v, e = .returned v ∧ w'.ownsRow (w.heap.size + 1) 2 1 v 30 (fd (aw c s) 30) ∧ Below w.heap.size w w' := by
  obtain ⟨i0, hi, hz0, hz1, hz2⟩ := info_parts info_i64
  obtain ⟨w0, hw0⟩ : ∃ w0, w0 = w.alloc (.cells #[.bool g, .int .i64 c, .int .i64 s] 24) := ⟨_, rfl⟩
  have HW0 := hid hw0
  have hsz : w0.heap.size = w.heap.size + 1 := by rw [hw0, World.size_alloc]
  have HSZ := hid hsz
  have HBX : Hid (BoxNum w0 w.heap.size g c s) := by show BoxNum _ _ _ _ _; rw [hw0]; exact BoxNum.new _ _ _ _ _
  have HBW : Hid (Below w.heap.size w w0) := by show Below _ _ _; rw [hw0]; exact (Below.refl _ _).alloc (Nat.le_refl _) _
  have HLT := hid (aw_lt c s hc)
  clear hsz hw0
  go_enter Tryd.func34, Tryd.ntmps34
  go_wp2
  rw [← HW0.out]
  go_loopw [3, 4] (fun v i wr => ∃ j : Nat, s + j ≤ 5 ∧ i = .int .i64 ((s + j : Nat) : Int) ∧ AtInv w0 (aw c s) j v wr) (fun _ i _ => 5 - (intOf i).toNat)
  case atStart => exact ⟨0, by omega, by simp, World.ownsRow_nil _ _ _ _, Below.refl _ _⟩
  case round =>
    obtain ⟨j, hj, rfl, hin⟩ := hrel
    have KIN := hid hin
    obtain ⟨hown, hb⟩ := hin
    obtain ⟨q, hq⟩ : ∃ q : Nat, q = s + j := ⟨_, rfl⟩
    rw [← hq] at hj ⊢
    have HQ := hid hq
    by_cases hlt : q < 5
    · have hd := hid (aw_low c s j (by omega))
      clear hq
      go_wp2_with (at_builtin; refine wpList_append_own _ rfl _ _ 43 rfl w0.heap.size 2 i0 (.int .i64 0) 1 8 Tryd.underlying43 hi hz0 hz1 hz2 rfl (by decide) _ _ _ rfl (hown.alloc _) ⟨wr.heap.size, 0, none⟩ 1 1 [.int .i64 0] rfl rfl ?c1 ?c2 ?c3 ?c4 ?c5 ?_)
      case c1 =>
        intro j u hj
        match j, hj with
        | 0, hj => simp at hj; subst hj; simp [Addr.add]
      case c2 => intro u hu; simp at hu; subst hu; rfl
      case c3 => have := HQ.out; unfold maxLen; omega
      case c4 => have := HQ.out; omega
      case c5 => have := hb.size; simp; omega
      intro v' w1 hown' hgrow _
      have hin' := hid (KIN.out.app (o := _) ⟨0, by rw [hd.out]; rfl, hown'⟩ hgrow)
      clear hgrow hown hb hown'
      go_wp2
      go_roundw
      case rel => exact ⟨j + 1, by have := HQ.out; omega, by rw [HQ.out]; go_num, hin'.out⟩
      case measure => simp [intOf]; omega
    · obtain rfl : j = 5 - s := by omega
      clear hq
      obtain ⟨hz, a0, a1, a2⟩ := HBX.out.below KIN.out.2
      clear hown hb
      have hlim : 5 ≤ q := by omega
      go_wp2
      go_loopw [3, 5] (fun v x wr => ∃ m : Nat, 5 - s ≤ m ∧ m ≤ 30 ∧ x = .int .i64 ((sh (aw c s) m : Nat) : Int) ∧ AtInv w0 (aw c s) m v wr) (fun _ x _ => (intOf x).toNat)
      case atStart => exact ⟨5 - s, Nat.le_refl _, by omega, by rw [aw_top c s (by omega)], KIN.out⟩
      case round =>
        clear hz a0 a1 a2 KIN
        obtain ⟨m, hm0, hm, rfl, hin⟩ := hrel
        have KIN := hid hin
        obtain ⟨hown, hb⟩ := hin
        obtain ⟨y, hy⟩ : ∃ y : Nat, y = sh (aw c s) m := ⟨_, rfl⟩
        rw [← hy]
        have HY := hid hy
        by_cases h0 : 0 < y
        · have hm2 : m < 23 := by
            by_cases h : m < 23
            · exact h
            · have h1 : 10 ^ 23 ≤ 10 ^ m := Nat.pow_le_pow_right (by omega) (by omega)
              have h2 := HLT.out
              have : sh (aw c s) m = 0 := Nat.div_eq_of_lt (by omega)
              omega
          have hy2 : y < 1000000000000000000 := by have := sh_anti (aw c s) hm0; rw [aw_top c s (by omega)] at this; omega
          clear hy
          go_wp2_with (at_builtin; refine wpList_append_own _ rfl _ _ 43 rfl w0.heap.size 2 i0 (.int .i64 0) 1 8 Tryd.underlying43 hi hz0 hz1 hz2 rfl (by decide) _ _ _ rfl (hown.alloc _) ⟨wr.heap.size, 0, none⟩ 1 1 [.int .i64 ((y : Int) % 10)] rfl rfl ?c1 ?c2 ?c3 ?c4 ?c5 ?_)
          case c1 =>
            intro j u hj
            match j, hj with
            | 0, hj => simp at hj; subst hj; simp [Addr.add]
          case c2 => intro u hu; simp at hu; subst hu; rfl
          case c3 => unfold maxLen; omega
          case c4 => omega
          case c5 => have := hb.size; simp; omega
          intro v' w1 hown' hgrow _
          have hin' := hid (KIN.out.app (o := _) ⟨(y : Int) % 10, by rw [← HY.out]; rfl, hown'⟩ hgrow)
          clear hgrow hown hb hown'
          go_wp2
          go_roundw
          case rel => exact ⟨m + 1, by omega, by omega, by rw [sh_succ, ← HY.out]; go_num, hin'.out⟩
          case measure => simp [intOf]; omega
        · have HY0 := hid (show y = 0 by omega)
          clear hy hown hb
          go_wp2
          go_loopw [3] (fun v wr => ∃ m : Nat, m ≤ 30 ∧ sh (aw c s) m = 0 ∧ AtInv w0 (aw c s) m v wr) (fun v _ => 30 - slen v)
          case atStart => exact ⟨m, hm, by rw [← HY.out, HY0.out], KIN.out⟩
          case round =>
            clear hm hm0 HY KIN HY0
            obtain ⟨m, hm, h0, hin⟩ := hrel
            have KIN := hid hin
            have H0 := hid h0
            obtain ⟨hown, hb⟩ := hin
            obtain ⟨ad, cap, rfl⟩ := owns_slice hown
            clear h0
            by_cases hlt : m < 30
            · go_wp2_with (at_builtin; refine wpList_append_own _ rfl _ _ 43 rfl w0.heap.size 2 i0 (.int .i64 0) 1 8 Tryd.underlying43 hi hz0 hz1 hz2 rfl (by decide) _ _ _ rfl (hown.alloc _) ⟨wr.heap.size, 0, none⟩ 1 1 [.int .i64 0] rfl rfl ?c1 ?c2 ?c3 ?c4 ?c5 ?_)
              case c1 =>
                intro j u hj
                match j, hj with
                | 0, hj => simp at hj; subst hj; simp [Addr.add]
              case c2 => intro u hu; simp at hu; subst hu; rfl
              case c3 => unfold maxLen; omega
              case c4 => omega
              case c5 => have := hb.size; simp; omega
              intro v' w1 hown' hgrow _
              have hin' := hid (KIN.out.app (o := _) ⟨0, by rw [H0.out]; rfl, hown'⟩ hgrow)
              obtain ⟨ad', cap', rfl⟩ := owns_slice hown'
              clear hgrow hown hb hown'
              go_wp2
              go_roundw
              case rel => exact ⟨m + 1, by omega, by rw [sh_succ, H0.out], hin'.out⟩
              case measure => simp [slen]; omega
            · obtain rfl : m = 30 := by omega
              have hbb := HBW.out.trans (hb.mono HBW.out.size)
              have KO := hid hown
              clear hown hb
              go_wp2
              go_ret
              exact ⟨_, rfl, by rw [← HSZ.out]; exact KO.out, hbb⟩
end Go.Proofs.YtfiifppmpehncaaDoor
