/-
  allDigits, coefficient.
-/
import Derived.Test.YthpjfhgpmcmdiaaDig
namespace Go.Proofs.Ythpjfhgpmcmdiaa
open Go.RowKit Go.Shelf
attribute [local go_sem] Oper.semAt_some

theorem cell_new1 (W : World) (v : Value) (t : TypeId) : (W.alloc (.cells #[v] t)).cell? ⟨W.heap.size, 0, none⟩ = some v ∧ (W.alloc (.cells #[v] t)).frozen? ⟨W.heap.size, 0, none⟩ = false := by
  constructor <;> simp [go_sem]
theorem cell_alloc1 {W : World} {a : Addr} {v : Value} (o : Obj) (h : W.cell? a = some v) : (W.alloc o).cell? a = some v := cell_kept h (World.grownBy_alloc W o none) (fun r e => by cases e)
theorem frozen_alloc1 {W : World} {a : Addr} {v : Value} (o : Obj) (h : W.cell? a = some v) (hf : W.frozen? a = false) : (W.alloc o).frozen? a = false := (frozen_kept h (World.grownBy_alloc W o none) (fun r e => by cases e)).trans hf

/-- Are all bytes digits? -/
def allB (s : ByteArray) : Bool := (List.range s.size).all (isDg s)
def lastEnd {s : ByteArray} (ys : List (Dg s)) : Nat := match ys.getLast? with | none => 0 | some x => x.1 + 1
theorem lastEnd_snoc {s : ByteArray} (ys : List (Dg s)) (x : Dg s) : lastEnd (ys ++ [x]) = x.1 + 1 := by simp [lastEnd]
theorem nil_or_snoc {α : Type} (ys : List α) : ys = [] ∨ ∃ zs x, ys = zs ++ [x] := by
  rcases List.eq_nil_or_concat ys with h | ⟨zs, x, h⟩
  · exact .inl h
  · exact .inr ⟨zs, x, by rw [h, List.concat_eq_append]⟩
theorem part_last {s : ByteArray} {ys : List (Dg s)} (h : ys.map (·.1) = List.range ys.length) : lastEnd ys = ys.length := by
  rcases nil_or_snoc ys with rfl | ⟨zs, x, rfl⟩
  · rfl
  · rw [lastEnd_snoc]
    simp [List.range_succ] at h
    have := h.2
    simp [this]
theorem part_le {s : ByteArray} {ys : List (Dg s)} (h : ys.map (·.1) = List.range ys.length) : ys.length ≤ s.size := by
  rw [← part_last h]
  rcases nil_or_snoc ys with rfl | ⟨zs, x, rfl⟩
  · simp [lastEnd]
  · rw [lastEnd_snoc]; exact x.2.1
theorem part_dg {s : ByteArray} {ys : List (Dg s)} (h : ys.map (·.1) = List.range ys.length) (i : Nat) (hi : i < ys.length) : isDg s i = true := by
  have : (ys.map (·.1))[i]'(by simpa using hi) = i := by simp [h]
  simp at this
  have h2 := (ys[i]).2
  rw [this] at h2
  simp [isDg]; omega
theorem all_end {s : ByteArray} {ys : List (Dg s)} (h : Dg.all s ys) : (((lastEnd ys : Nat) : Int) == (s.size : Int)) = allB s := by
  obtain ⟨h1, h2⟩ := h
  rw [part_last h1]
  have hle := part_le h1
  rcases h2 with h2 | h2
  · rw [h2]
    have : allB s = true := by
      simp only [allB, List.all_eq_true, List.mem_range]
      exact fun i hi => part_dg h1 i (by omega)
    rw [this]; simp
  · have hlt : ys.length < s.size ∨ ys.length = s.size := by omega
    rcases hlt with hlt | heq
    · have : allB s = false := by
        simp only [allB, List.all_eq_false, List.mem_range]
        exact ⟨_, hlt, by simp [h2]⟩
      rw [this]
      simp; omega
    · have : allB s = true := by
        simp only [allB, List.all_eq_true, List.mem_range]
        exact fun i hi => part_dg h1 i (by omega)
      rw [this, heq]; simp

/-- What the first k digits say. -/
def val (s : ByteArray) : Nat → Int
  | 0 => 0
  | k + 1 => 10 * val s k + ((bt s k : Int) - 48)
/-- What is told of a text of digits. -/
def coefV (s : ByteArray) : Value := if val s s.size < 1000000000000000000 then .tuple #[.int .i64 (val s s.size), .bool true] else .tuple #[.int .i64 0, .bool false]
/-- What digits say. -/
def coef {s : ByteArray} (ys : List (Dg s)) : Int := ys.foldl (fun a x => 10 * a + ((bt s x.1 : Int) - 48)) 0
/-- Another digit is one too many. -/
def Over {s : ByteArray} (pre : List (Dg s)) : Prop := ∃ pre' x, pre = pre' ++ [x] ∧ 100000000000000000 ≤ coef pre'
theorem coef_snoc {s : ByteArray} (ys : List (Dg s)) (x : Dg s) : coef (ys ++ [x]) = 10 * coef ys + ((bt s x.1 : Int) - 48) := by simp [coef]
theorem coef_pos {s : ByteArray} (ys : List (Dg s)) : 0 ≤ coef ys := by
  suffices h : ∀ (zs : List (Dg s)) (a : Int), 0 ≤ a → 0 ≤ zs.foldl (fun a x => 10 * a + ((bt s x.1 : Int) - 48)) a from h ys 0 (by omega)
  intro zs
  induction zs with
  | nil => exact fun a h => h
  | cons x zs ih => exact fun a h => ih _ (by have := x.2; show 0 ≤ 10 * a + ((bt s x.1 : Int) - 48); omega)
theorem coef_val {s : ByteArray} : ∀ (n : Nat) (ys : List (Dg s)), ys.length = n → ys.map (·.1) = List.range n → coef ys = val s n
  | 0, ys, hn, _ => by
    obtain rfl : ys = [] := List.eq_nil_of_length_eq_zero hn
    rfl
  | n + 1, ys, hn, h => by
    rcases nil_or_snoc ys with rfl | ⟨zs, x, rfl⟩
    · simp at hn
    · have hl : zs.length = n := by simpa using hn
      rw [List.range_succ, List.map_append] at h
      obtain ⟨h1, h2⟩ := List.append_inj h (by simpa using hl)
      have hx : x.1 = n := by simpa using h2
      rw [coef_snoc, coef_val n zs hl h1, val, hx]
theorem val_pos {s : ByteArray} (h : allB s = true) : ∀ k, k ≤ s.size → 0 ≤ val s k
  | 0, _ => Int.le_refl _
  | k + 1, hk => by
    have := val_pos h k (by omega)
    have h2 : isDg s k = true := by
      simp only [allB, List.all_eq_true, List.mem_range] at h
      exact h k (by omega)
    simp [isDg] at h2
    rw [val]; omega
theorem val_mono {s : ByteArray} (h : allB s = true) (k : Nat) : ∀ j, k < j → j ≤ s.size → 10 * val s k ≤ val s j
  | 0, hk, _ => by omega
  | j + 1, hk, hj => by
    have h2 : isDg s j = true := by
      simp only [allB, List.all_eq_true, List.mem_range] at h
      exact h j (by omega)
    simp [isDg] at h2
    by_cases e : k = j
    · subst e; rw [val]; omega
    · have := val_mono h k j (by omega) (by omega)
      have := val_pos h j (by omega)
      rw [val]; omega

end Go.Proofs.Ythpjfhgpmcmdiaa
