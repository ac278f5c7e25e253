/-
  allDigits, coefficient.
-/
import Derived.Test.YtjpndajbkemnlaaDoorDig
namespace Go.Proofs.YtjpndajbkemnlaaDoor
open Go.RowKit Go.Shelf
attribute [local go_sem] Oper.semAt_some

theorem cell_new1 (W : World) (v : Value) (t : TypeId) : (W.alloc (.cells #[v] t)).cell? ⟨W.heap.size, 0, none⟩ = some v ∧ (W.alloc (.cells #[v] t)).frozen? ⟨W.heap.size, 0, none⟩ = false := by
  constructor <;> simp [go_sem]
theorem cell_alloc1 {W : World} {a : Addr} {v : Value} (o : Obj) (h : W.cell? a = some v) : (W.alloc o).cell? a = some v := cell_kept h (World.grownBy_alloc W o none) (fun r e => by cases e)
theorem frozen_alloc1 {W : World} {a : Addr} {v : Value} (o : Obj) (h : W.cell? a = some v) (hf : W.frozen? a = false) : (W.alloc o).frozen? a = false := (frozen_kept h (World.grownBy_alloc W o none) (fun r e => by cases e)).trans hf

/-- Are all bytes digits? -/
def allB (s : ByteArray) : Bool := (List.range s.size).all (isDg s)
def lastEnd {s : ByteArray} (ys : List (Dg s)) : Nat := match ys.getLast? with | none => 0 | some x => x.1 + 1
theorem lastEnd_snoc {s : ByteArray} (ys : List (Dg s)) (x : Dg s) : lastEnd (ys ++ [x]) = x.1 + 1 := by simp [lastEnd]
theorem nil_or_snoc {α : Type} (ys : List α) : ys = [] ∨ ∃ zs x, ys = zs ++ [x] := by
  rcases List.eq_nil_or_concat ys with h | ⟨zs, x, h⟩
  · exact .inl h
  · exact .inr ⟨zs, x, by rw [h, List.concat_eq_append]⟩
theorem part_last {s : ByteArray} {ys : List (Dg s)} (h : ys.map (·.1) = List.range ys.length) : lastEnd ys = ys.length := by
  rcases nil_or_snoc ys with rfl | ⟨zs, x, rfl⟩
  · rfl
  · rw [lastEnd_snoc]
    simp [List.range_succ] at h
    have := h.2
    simp [this]
theorem part_le {s : ByteArray} {ys : List (Dg s)} (h : ys.map (·.1) = List.range ys.length) : ys.length ≤ s.size := by
  rw [← part_last h]
  rcases nil_or_snoc ys with rfl | ⟨zs, x, rfl⟩
  · simp [lastEnd]
  · rw [lastEnd_snoc]; exact x.2.1
theorem part_dg {s : ByteArray} {ys : List (Dg s)} (h : ys.map (·.1) = List.range ys.length) (i : Nat) (hi : i < ys.length) : isDg s i = true := by
  have : (ys.map (·.1))[i]'(by simpa using hi) = i := by simp [h]
  simp at this
  have h2 := (ys[i]).2
  rw [this] at h2
  simp [isDg]; omega
theorem all_end {s : ByteArray} {ys : List (Dg s)} (h : Dg.all s ys) : (((lastEnd ys : Nat) : Int) == (s.size : Int)) = allB s := by
  obtain ⟨h1, h2⟩ := h
  rw [part_last h1]
  have hle := part_le h1
  rcases h2 with h2 | h2
  · rw [h2]
    have : allB s = true := by
      simp only [allB, List.all_eq_true, List.mem_range]
      exact fun i hi => part_dg h1 i (by omega)
    rw [this]; simp
  · have hlt : ys.length < s.size ∨ ys.length = s.size := by omega
    rcases hlt with hlt | heq
    · have : allB s = false := by
        simp only [allB, List.all_eq_false, List.mem_range]
        exact ⟨_, hlt, by simp [h2]⟩
      rw [this]
      simp; omega
    · have : allB s = true := by
        simp only [allB, List.all_eq_true, List.mem_range]
        exact fun i hi => part_dg h1 i (by omega)
      rw [this, heq]; simp

set_option maxRecDepth 100000 in
set_option maxHeartbeats 2000000 in
theorem allDigits_in (F : Fence) (n : Nat) (h3 : F.fn 25) (h5 : F.fn 35) (h6 : F.fn 52) (hro : F.round = none) (hn : 3 ≤ n) (s : ByteArray) (hs : s.size ≤ 9223372036854775806) (w : World) :
    CallsIn F n Tryd.prog 25 #[.string s] w fun e W' => e = .returned (.bool (allB s)) ∧ Below w.heap.size w W' := by
  have h1 : 1 ≤ n := by omega
  refine callsIn_of_wp_marks Tryd.func25 rfl h3 ?_ hro
  simp only [Tryd.ntmps25, List.size_toArray, List.length_cons, List.length_nil, Nat.reduceAdd, Nat.reduceSub, Array.replicate_succ, Array.replicate_zero, List.push_toArray, List.append_toArray, List.nil_append, List.cons_append]
  gi_wp2_with (gi_at_call 35; refine (digits_in F (n - 1) h5 hro _ _).mono ?_; rintro e w' ⟨rfl, rfl⟩)
  have c0 := cell_new1 w (.int .i64 0) 3
  have c1 := cell_new1 (w.alloc (.cells #[.int .i64 0] 3)) (.string s) 9
  rw [World.size_alloc] at c1
  have hB0 : Below w.heap.size w ((w.alloc (.cells #[.int .i64 0] 3)).alloc (.cells #[.string s] 9)) := ((Below.refl _ w).alloc (Nat.le_refl _) _).alloc (by simp) _
  refine wpIn_rangeFunc_ownF hro h1 (gf := 52) (lb := #[.pointer (some ⟨w.heap.size + 1, 0, none⟩)]) rfl h6 (enters_of Tryd.func52 (by kernel_rfl) rfl)
    (digits_stops F (n - 1) h6 hro (by omega) (w.heap.size + 1) s (by omega) _ (by simp) c1.1) keepsCell_t keepsCell_b (Below.refl _ _) (fun _ => rfl)
    (fun pre W => (W.cell? ⟨w.heap.size, 0, none⟩ = some (.int .i64 (lastEnd pre : Nat)) ∧ W.frozen? ⟨w.heap.size, 0, none⟩ = false) ∧ Below w.heap.size w W)
    (fun _ _ _ => False)
    (OwnFrom.and (Own.from (fun s A B row hs hg hr => ⟨cell_kept hs.1 hg hr, (frozen_kept hs.1 hg hr).trans hs.2⟩) _) (ownFrom_below (Nat.le_refl _) (by simp; omega)))
    (fun _ _ _ _ _ hs _ _ => hs)
    ⟨⟨cell_alloc1 _ c0.1, frozen_alloc1 _ c0.1 c0.2⟩, hB0⟩
    (fun x => { tmps := #[.string s, undef, .bool false, .pointer (some ⟨w.heap.size, 0, none⟩), .int .i64 (x.1 : Nat), .string s, .func (.func 52) #[] #[.pointer (some ⟨w.heap.size + 1, 0, none⟩)], .int .i64 (x.1 : Nat), .int .i64 ((bt s x.1 : Int) - 48), undef, undef, undef, undef, undef, undef], defers := [] }) ?assign ?body ?done ?stop
  case assign =>
    intro l x W K hK
    gi_wp2
    exact hK
  case body =>
    rintro l pre x W ⟨⟨hc, hf⟩, hB⟩ _
    have hx := x.2.1
    gi_wp2
    exact ⟨KeepsOthers.setCell _ _ _, keepsCell_set _ _ _ (by dsimp only; omega), ⟨by rw [lastEnd_snoc]; exact World.cell?_setCell_same' _ _ _ (by rw [hc]; rfl), by rw [World.frozen?_setCell]; exact hf⟩, hB.setCell (p := ⟨w.heap.size, 0, none⟩) (Nat.le_refl _) _⟩
  case done =>
    rintro D ys W hD hall ⟨⟨hc, _⟩, hB⟩ hK
    gi_wp2
    refine ⟨by simp, .inl ⟨_, _, rfl, run_takeDeferred hK, ?_⟩⟩
    refine ⟨_, results_tmp rfl _ _ _, by rw [← all_end hall]; rfl, hB.trans (belowK_b (w := w) (Nat.le_refl _) W D _ _ (by simp at hD; omega) hK rfl rfl)⟩
  case stop =>
    rintro D c pre W _ _ h _
    exact h.elim

/-- What the first k digits say. -/
def val (s : ByteArray) : Nat → Int
  | 0 => 0
  | k + 1 => 10 * val s k + ((bt s k : Int) - 48)
/-- What is told of a text of digits. -/
def coefV (s : ByteArray) : Value := if val s s.size < 1000000000000000000 then .tuple #[.int .i64 (val s s.size), .bool true] else .tuple #[.int .i64 0, .bool false]
/-- What digits say. -/
def coef {s : ByteArray} (ys : List (Dg s)) : Int := ys.foldl (fun a x => 10 * a + ((bt s x.1 : Int) - 48)) 0
/-- Another digit is one too many. -/
def Over {s : ByteArray} (pre : List (Dg s)) : Prop := ∃ pre' x, pre = pre' ++ [x] ∧ 100000000000000000 ≤ coef pre'
theorem coef_snoc {s : ByteArray} (ys : List (Dg s)) (x : Dg s) : coef (ys ++ [x]) = 10 * coef ys + ((bt s x.1 : Int) - 48) := by simp [coef]
theorem coef_pos {s : ByteArray} (ys : List (Dg s)) : 0 ≤ coef ys := by
  suffices h : ∀ (zs : List (Dg s)) (a : Int), 0 ≤ a → 0 ≤ zs.foldl (fun a x => 10 * a + ((bt s x.1 : Int) - 48)) a from h ys 0 (by omega)
  intro zs
  induction zs with
  | nil => exact fun a h => h
  | cons x zs ih => exact fun a h => ih _ (by have := x.2; show 0 ≤ 10 * a + ((bt s x.1 : Int) - 48); omega)
theorem coef_val {s : ByteArray} : ∀ (n : Nat) (ys : List (Dg s)), ys.length = n → ys.map (·.1) = List.range n → coef ys = val s n
  | 0, ys, hn, _ => by
    obtain rfl : ys = [] := List.eq_nil_of_length_eq_zero hn
    rfl
  | n + 1, ys, hn, h => by
    rcases nil_or_snoc ys with rfl | ⟨zs, x, rfl⟩
    · simp at hn
    · have hl : zs.length = n := by simpa using hn
      rw [List.range_succ, List.map_append] at h
      obtain ⟨h1, h2⟩ := List.append_inj h (by simpa using hl)
      have hx : x.1 = n := by simpa using h2
      rw [coef_snoc, coef_val n zs hl h1, val, hx]
theorem val_pos {s : ByteArray} (h : allB s = true) : ∀ k, k ≤ s.size → 0 ≤ val s k
  | 0, _ => Int.le_refl _
  | k + 1, hk => by
    have := val_pos h k (by omega)
    have h2 : isDg s k = true := by
      simp only [allB, List.all_eq_true, List.mem_range] at h
      exact h k (by omega)
    simp [isDg] at h2
    rw [val]; omega
theorem val_mono {s : ByteArray} (h : allB s = true) (k : Nat) : ∀ j, k < j → j ≤ s.size → 10 * val s k ≤ val s j
  | 0, hk, _ => by omega
  | j + 1, hk, hj => by
    have h2 : isDg s j = true := by
      simp only [allB, List.all_eq_true, List.mem_range] at h
      exact h j (by omega)
    simp [isDg] at h2
    by_cases e : k = j
    · subst e; rw [val]; omega
    · have := val_mono h k j (by omega) (by omega)
      have := val_pos h j (by omega)
      rw [val]; omega

set_option maxRecDepth 100000 in
set_option maxHeartbeats 2000000 in
theorem coefficient_in (F : Fence) (n : Nat) (h3 : F.fn 26) (h5 : F.fn 35) (h6 : F.fn 52) (hro : F.round = none) (hn : 3 ≤ n) (s : ByteArray) (hs : s.size ≤ 9223372036854775806) (hall : allB s = true) (w : World) :
    CallsIn F n Tryd.prog 26 #[.string s] w fun e W' => e = .returned (coefV s) ∧ Below w.heap.size w W' := by
  have h1 : 1 ≤ n := by omega
  have Hall := hid hall
  clear hall
  refine callsIn_of_wp_marks Tryd.func26 rfl h3 ?_ hro
  simp only [Tryd.ntmps26, List.size_toArray, List.length_cons, List.length_nil, Nat.reduceAdd, Nat.reduceSub, Array.replicate_succ, Array.replicate_zero, List.push_toArray, List.append_toArray, List.nil_append, List.cons_append]
  gi_wp2_with (gi_at_call 35; refine (digits_in F (n - 1) h5 hro _ _).mono ?_; rintro e w' ⟨rfl, rfl⟩)
  have c0 := cell_new1 w (.int .i64 0) 2
  have c1 := cell_new1 (w.alloc (.cells #[.int .i64 0] 2)) (.bool false) 4
  have c2 := cell_new1 ((w.alloc (.cells #[.int .i64 0] 2)).alloc (.cells #[.bool false] 4)) (.int .i64 0) 2
  have c3 := cell_new1 (((w.alloc (.cells #[.int .i64 0] 2)).alloc (.cells #[.bool false] 4)).alloc (.cells #[.int .i64 0] 2)) (.string s) 9
  simp only [World.size_alloc] at c1 c2 c3
  have hB0 : Below w.heap.size w ((((w.alloc (.cells #[.int .i64 0] 2)).alloc (.cells #[.bool false] 4)).alloc (.cells #[.int .i64 0] 2)).alloc (.cells #[.string s] 9)) := by go_grown
  refine wpIn_rangeFunc_ownF hro h1 (gf := 52) (lb := #[.pointer (some ⟨w.heap.size + 1 + 1 + 1, 0, none⟩)]) rfl h6 (enters_of Tryd.func52 (by kernel_rfl) rfl)
    (digits_stops F (n - 1) h6 hro (by omega) (w.heap.size + 1 + 1 + 1) s (by omega) _ (by simp) c3.1) keepsCell_t keepsCell_b (Below.refl _ _) (fun _ => rfl)
    (fun pre W => (((W.cell? ⟨w.heap.size, 0, none⟩ = some (.int .i64 0) ∧ W.frozen? ⟨w.heap.size, 0, none⟩ = false) ∧ (W.cell? ⟨w.heap.size + 1, 0, none⟩ = some (.bool false) ∧ W.frozen? ⟨w.heap.size + 1, 0, none⟩ = false) ∧ (W.cell? ⟨w.heap.size + 1 + 1, 0, none⟩ = some (.int .i64 (coef pre)) ∧ W.frozen? ⟨w.heap.size + 1 + 1, 0, none⟩ = false)) ∧ coef pre < 1000000000000000000) ∧ Below w.heap.size w W)
    (fun c pre W => (c = .ret ∧ Over pre ∧ W.cell? ⟨w.heap.size, 0, none⟩ = some (.int .i64 0) ∧ W.cell? ⟨w.heap.size + 1, 0, none⟩ = some (.bool false)) ∧ Below w.heap.size w W)
    (OwnFrom.and (Own.from (fun s A B row hs hg hr => ⟨⟨⟨cell_kept hs.1.1.1 hg hr, (frozen_kept hs.1.1.1 hg hr).trans hs.1.1.2⟩, ⟨cell_kept hs.1.2.1.1 hg hr, (frozen_kept hs.1.2.1.1 hg hr).trans hs.1.2.1.2⟩, cell_kept hs.1.2.2.1 hg hr, (frozen_kept hs.1.2.2.1 hg hr).trans hs.1.2.2.2⟩, hs.2⟩) _) (ownFrom_below (Nat.le_refl _) (by simp; omega)))
    (fun c => OwnFrom.and (Own.from (fun s A B row hs hg hr => ⟨hs.1, hs.2.1, cell_kept hs.2.2.1 hg hr, cell_kept hs.2.2.2 hg hr⟩) _) (ownFrom_below (Nat.le_refl _) (by simp; omega)))
    ⟨⟨⟨⟨cell_alloc1 _ (cell_alloc1 _ (cell_alloc1 _ c0.1)), frozen_alloc1 _ (cell_alloc1 _ (cell_alloc1 _ c0.1)) (frozen_alloc1 _ (cell_alloc1 _ c0.1) (frozen_alloc1 _ c0.1 c0.2))⟩, ⟨cell_alloc1 _ (cell_alloc1 _ c1.1), frozen_alloc1 _ (cell_alloc1 _ c1.1) (frozen_alloc1 _ c1.1 c1.2)⟩, cell_alloc1 _ c2.1, frozen_alloc1 _ c2.1 c2.2⟩, by simp [coef]⟩, hB0⟩
    (fun x => { tmps := #[.string s, undef, .pointer (some ⟨w.heap.size, 0, none⟩), .pointer (some ⟨w.heap.size + 1, 0, none⟩), .pointer (some ⟨w.heap.size + 1 + 1, 0, none⟩), undef, .int .i64 ((bt s x.1 : Int) - 48), .string s, .func (.func 52) #[] #[.pointer (some ⟨w.heap.size + 1 + 1 + 1, 0, none⟩)], .int .i64 (x.1 : Nat), .int .i64 ((bt s x.1 : Int) - 48), undef, undef, undef, undef, undef, undef, undef], defers := [] }) ?assign ?body ?done ?stop
  case assign =>
    intro l x W K hK
    gi_wp2
    exact hK
  case body =>
    rintro l pre x W ⟨⟨⟨⟨a0, f0⟩, ⟨a1, f1⟩, a2, f2⟩, hlt⟩, hB⟩ _
    have hx := x.2.2
    have hp := coef_pos pre
    by_cases hc : coef pre < 100000000000000000
    · have HS := hid (coef_snoc pre x)
      gi_wp2
      refine ⟨KeepsOthers.setCell _ _ _, keepsCell_set _ _ _ (by dsimp only; omega), ⟨⟨⟨⟨?_, ?_⟩, ⟨?_, ?_⟩, ?_, ?_⟩, ?_⟩, hB.setCell (p := ⟨w.heap.size + 1 + 1, 0, none⟩) (by dsimp only; omega) _⟩⟩
      · exact (World.cell?_setCell_other _ _ _ _ (by simp)).trans a0
      · rw [World.frozen?_setCell]; exact f0
      · exact (World.cell?_setCell_other _ _ _ _ (by simp)).trans a1
      · rw [World.frozen?_setCell]; exact f1
      · rw [HS.out]; exact World.cell?_setCell_same' _ _ _ (by rw [a2]; rfl)
      · rw [World.frozen?_setCell]; exact f2
      · rw [HS.out]; omega
    · gi_wp2
      refine ⟨(KeepsOthers.setCell _ _ _).trans (KeepsOthers.setCell _ _ _), ⟨rfl, ⟨pre, x, rfl, by omega⟩, ?_, ?_⟩, ?_⟩
      · exact (World.cell?_setCell_other _ _ _ _ (by simp)).trans (World.cell?_setCell_same' _ _ _ (by rw [a0]; rfl))
      · have : (W.setCell ⟨w.heap.size, 0, none⟩ (.int .i64 0)).cell? ⟨w.heap.size + 1, 0, none⟩ = some (.bool false) := (World.cell?_setCell_other _ _ _ _ (by simp)).trans a1
        exact World.cell?_setCell_same' _ _ _ (by rw [this]; rfl)
      · exact (hB.setCell (p := ⟨w.heap.size, 0, none⟩) (Nat.le_refl _) _).setCell (p := ⟨w.heap.size + 1, 0, none⟩) (by dsimp only; omega) _
  case done =>
    rintro D ys W hD hys ⟨⟨⟨⟨a0, f0⟩, ⟨a1, f1⟩, a2, f2⟩, hlt⟩, hB⟩ hK
    have hlen : ys.length = s.size := by
      have h := all_end hys
      rw [Hall.out, part_last hys.1] at h
      have := eq_of_beq h
      omega
    have hv : coef ys = val s s.size := coef_val s.size ys hlen (by have := hys.1; rwa [hlen] at this)
    have hv2 : coefV s = .tuple #[.int .i64 (coef ys), .bool true] := by rw [coefV, if_pos (by omega), hv]
    have HV := hid hv2
    clear hv hlen hv2
    gi_wp2
    have hb1 : (W.setCell ⟨w.heap.size, 0, none⟩ (.int .i64 (coef ys))).cell? ⟨w.heap.size + 1, 0, none⟩ = some (.bool false) := (World.cell?_setCell_other _ _ _ _ (by simp)).trans a1
    have hK' := ((KeepsOthers.setCell W ⟨w.heap.size, 0, none⟩ (.int .i64 (coef ys))).trans (KeepsOthers.setCell _ ⟨w.heap.size + 1, 0, none⟩ (.bool true))).same D _ hK rfl
    refine ⟨by simp, .inl ⟨_, _, rfl, run_takeDeferred hK', ?_⟩⟩
    have hk5 := cell_kept ((World.cell?_setCell_other (W.setCell ⟨w.heap.size, 0, none⟩ (.int .i64 (coef ys))) ⟨w.heap.size + 1, 0, none⟩ ⟨w.heap.size, 0, none⟩ (.bool true) (by simp)).trans (World.cell?_setCell_same' W ⟨w.heap.size, 0, none⟩ (.int .i64 (coef ys)) (by rw [a0]; rfl))) (grownBy_putObj' _ D (.deferred none)) (fun r e => by cases e; exact ⟨_, hK', rfl⟩)
    have hb5 := cell_kept (World.cell?_setCell_same' (W.setCell ⟨w.heap.size, 0, none⟩ (.int .i64 (coef ys))) ⟨w.heap.size + 1, 0, none⟩ (.bool true) (by rw [hb1]; rfl)) (grownBy_putObj' _ D (.deferred none)) (fun r e => by cases e; exact ⟨_, hK', rfl⟩)
    refine ⟨.tuple #[.int .i64 (coef ys), .bool true], ?_, by rw [HV.out], ((hB.setCell (p := ⟨w.heap.size, 0, none⟩) (Nat.le_refl _) _).setCell (p := ⟨w.heap.size + 1, 0, none⟩) (by dsimp only; omega) _).trans (belowK_b (w := w) (Nat.le_refl _) _ D _ _ (by simp at hD; omega) hK' rfl rfl)⟩
    simp [results, Tryd.f26, go_sem, hk5, hb5]
  case stop =>
    rintro D c pre W hD hpre ⟨⟨rfl, ⟨pre', x, rfl, hge⟩, a0, a1⟩, hB⟩ hK
    have hbig : ¬ val s s.size < 1000000000000000000 := by
      have hp : (pre' ++ [x]).map (·.1) = List.range (pre' ++ [x]).length := hpre
      have hle := part_le hp
      simp at hle
      rw [List.map_append, List.length_append, List.length_singleton, List.range_succ] at hp
      obtain ⟨h1, _⟩ := List.append_inj hp (by simp)
      rw [coef_val _ pre' rfl h1] at hge
      have := val_mono Hall.out pre'.length s.size (by omega) (Nat.le_refl _)
      omega
    have hv2 : coefV s = .tuple #[.int .i64 0, .bool false] := by rw [coefV, if_neg hbig]
    have HV := hid hv2
    clear hv2 hbig
    gi_wp2
    refine ⟨by simp, .inl ⟨_, _, rfl, run_takeDeferred hK, ?_⟩⟩
    have hk5 := cell_kept a0 (grownBy_putObj' _ D (.deferred none)) (fun r e => by cases e; exact ⟨_, hK, rfl⟩)
    have hb5 := cell_kept a1 (grownBy_putObj' _ D (.deferred none)) (fun r e => by cases e; exact ⟨_, hK, rfl⟩)
    refine ⟨.tuple #[.int .i64 0, .bool false], ?_, by rw [HV.out], hB.trans (belowK_b (w := w) (Nat.le_refl _) W D _ _ (by simp at hD; omega) hK rfl rfl)⟩
    simp [results, Tryd.f26, go_sem, hk5, hb5]
end Go.Proofs.YtjpndajbkemnlaaDoor
