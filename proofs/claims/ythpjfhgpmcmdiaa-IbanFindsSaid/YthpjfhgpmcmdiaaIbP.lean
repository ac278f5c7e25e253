/-
  Account numbers: the program's Rest.
-/
import Derived.Test.YthpjfhgpmcmdiaaIbI
import Derived.Test.YthpjfhgpmcmdiaaDig2
import Derived.Stop.RegionWithIn
import Derived.Deep.RegionHeld3
namespace Go.Proofs.Ythpjfhgpmcmdiaa
open Go.RowKit Go.Shelf
attribute [local go_sem] Oper.semAt_some

set_option maxHeartbeats 1000000 in
theorem ibrest_bad (s : ByteArray) (w : World) (hs : s.size ≤ 1000) (h : s.size < 4 ∨ 4 ≤ s.size ∧ s.data.toList.all ibOk = false) :
    Calls Try.prog 7 #[.string s] w fun e w' => e = .returned (.tuple #[.int .i64 0, .bool false]) ∧ Below w.heap.size w w' := by
  rcases h with h | ⟨h, hb⟩
  · go_enter Try.func7, Try.ntmps7
    go_wp2
    go_returns
    exact ⟨rfl, Below.refl _ _⟩
  · have HB := hid hb
    clear hb
    go_enter Try.func7, Try.ntmps7
    go_wp2_with (go_at_call 15; with_reducible refine (isPlain_any _ (by omega) _).mono ?_; rintro e w' ⟨rfl, rfl⟩; rw [HB.out])
    go_returns
    exact ⟨rfl, Below.refl _ _⟩

/-- A region that is shown not to panic serves whatever the post says of a panic. -/
theorem wpIn_noPanic {F : Fence} {n : Nat} {P : Program} {c : Code} {Q : Exit → Act → World → Prop} {a : Act} {w : World} (h : c.wpIn F n P (NoPanic Q) a w) : c.wpIn F n P Q a w :=
  wpIn_mono h NoPanic.imp

set_option maxRecDepth 100000 in
set_option maxHeartbeats 4000000 in
theorem ibrest_good (s : ByteArray) (w : World) (hs : s.size ≤ 1000) (h4 : 4 ≤ s.size) (hb : s.data.toList.all ibOk = true) :
    Calls Try.prog 7 #[.string s] w fun e w' => e = .returned (.tuple #[.int .i64 ((horn (digsOf (rot s.data.toList)) : Nat) : Int), .bool true]) ∧ Below w.heap.size w w' := by
  refine (callsIn_wide (n := 6)).1 ?_
  have hfP : Fence.wide.fn 15 := trivial
  have hfD : Fence.wide.fn 16 := trivial
  have h1 : 1 ≤ 6 := by decide
  have h2 : 1 ≤ 6 - 1 := by decide
  have hT : (s.extract 4 s.size ++ s.extract 0 4).data.toList = rot s.data.toList := by
    rw [ByteArray.data_append, Array.toList_append, ByteArray.data_extract, ByteArray.data_extract, Array.toList_extract, Array.toList_extract, List.extract_eq_take_drop, List.extract_eq_take_drop, rot,
      List.take_of_length_le (by simp), List.drop_zero]
  have HB := hid hb
  refine callsIn_of_wp_marks Try.func7 rfl trivial ?_ rfl
  simp only [Try.ntmps7, List.size_toArray, List.length_cons, List.length_nil, Nat.reduceAdd, Nat.reduceSub, Array.replicate_succ, Array.replicate_zero, List.push_toArray, List.append_toArray, List.nil_append, List.cons_append]
  gi_wp2_with (gi_at_call 15; refine (callsIn_wide.2 (isPlain_any _ (by omega) _)).mono ?_; rintro e w' ⟨rfl, hw'⟩; obtain rfl := hw'.symm; rw [HB.out])
  refine wpIn_noPanic ?_
  gi_region_with (gi_at_call 16; refine (callsIn_wide.2 (ibdigits_any _ _)).mono ?_; rintro e w' ⟨rfl, rfl⟩)
  refine NoPanic.normal ?_
  gi_wp2_with fail
  have hTs : (s.extract 4 s.size ++ s.extract 0 4).size = s.size := by
    have := congrArg List.length hT
    rw [rot_len] at this
    simpa using this
  have hok : (s.extract 4 s.size ++ s.extract 0 4).data.toList.all ibOk = true := by rw [hT, rot_all]; exact hb
  have HT := hid hT
  clear hT
  generalize s.extract 4 s.size ++ s.extract 0 4 = T at hTs hok HT ⊢
  obtain ⟨W0, hW0⟩ : ∃ W0, W0 = ((w.alloc (.cells #[.int .i64 0] 3)).alloc (.cells #[.string T] 9)).drew := ⟨_, rfl⟩
  rw [← hW0]
  have c0 : W0.cell? ⟨w.heap.size, 0, none⟩ = some (.int .i64 0) ∧ W0.frozen? ⟨w.heap.size, 0, none⟩ = false := by
    rw [hW0]; constructor <;> simp [go_sem]
  have c1 : W0.cell? ⟨w.heap.size + 1, 0, none⟩ = some (.string T) := by
    have := World.size_alloc w (.cells #[.int .i64 0] 3)
    rw [hW0, ← this]; simp [go_sem]
  have hsz : W0.heap.size = w.heap.size + 2 := by rw [hW0]; simp [go_sem]
  have hB0 : Below w.heap.size w W0 := by rw [hW0]; exact (((Below.refl _ w).alloc (Nat.le_refl _) _).alloc (by simp) _).drew
  clear hW0
  refine wpIn_rangeFunc_ownF rfl h1 (gf := 21) (lb := #[.pointer (some ⟨w.heap.size + 1, 0, none⟩)]) rfl trivial (enters_of Try.func21 (by kernel_rfl) rfl)
    (ibdigits_stops (6 - 1) h2 (w.heap.size + 1) T (by omega) hok _ (by omega) c1) keepsCell_t keepsCell_b (Below.refl _ _) (fun _ => rfl)
    (fun pre W => (W.cell? ⟨w.heap.size, 0, none⟩ = some (.int .i64 ((horn (pre.map (·.1)) : Nat) : Int)) ∧ W.frozen? ⟨w.heap.size, 0, none⟩ = false) ∧ Below w.heap.size w W)
    (fun _ _ _ => False)
    (OwnFrom.and (Own.from (fun s A B row hs hg hr => ⟨cell_kept hs.1 hg hr, (frozen_kept hs.1 hg hr).trans hs.2⟩) _) (ownFrom_below (Nat.le_refl _) (by omega)))
    (fun _ _ _ _ _ hs _ _ => hs)
    ⟨c0, hB0⟩
    (fun x => { tmps := #[.string s, undef, .int .i64 0, .bool false, .pointer (some ⟨w.heap.size, 0, none⟩), .int .i64 (x.1 : Nat), .string s, .int .i64 s.size, .bool (decide ((s.size : Int) < 4)), .bool (decide ((s.size : Int) < 4)),
      .string s, .bool true, .bool false, .bool (decide ((s.size : Int) < 4)), .string s, .string (s.extract 4 s.size), .string s, .string (s.extract 0 4), .string T,
      .func (.func 21) #[] #[.pointer (some ⟨w.heap.size + 1, 0, none⟩)], .int .i64 (x.1 : Nat), undef, undef, undef, undef, undef, undef], defers := [] }) ?assign ?body ?done ?stop
  case assign =>
    intro l x W K hK
    gi_wp2
    exact hK
  case body =>
    rintro l pre x W ⟨⟨hc, hf⟩, hB⟩ _
    have hx := x.2
    have hh := horn_lt (pre.map (·.1))
    have hn : ((horn ((pre ++ [x]).map (·.1)) : Nat) : Int) = (10 * ((horn (pre.map (·.1)) : Nat) : Int) + (x.1 : Nat)) % 97 := by
      rw [List.map_append, List.map_cons, List.map_nil, horn_snoc]
      omega
    have HN := hid hn
    clear hn
    generalize horn (pre.map (·.1)) = h0 at hc hh HN
    gi_wp2
    exact ⟨KeepsOthers.setCell _ _ _, keepsCell_set _ _ _ (by dsimp only; omega), ⟨by rw [HN.out]; exact World.cell?_setCell_same' _ _ _ (by rw [hc]; rfl), by rw [World.frozen?_setCell]; exact hf⟩, hB.setCell (p := ⟨w.heap.size, 0, none⟩) (Nat.le_refl _) _⟩
  case done =>
    rintro D ys W hD rfl ⟨⟨hc, _⟩, hB⟩ hK
    rw [dgsF_val hok, HT.out] at hc
    gi_wp2
    refine ⟨by simp, .inl ⟨_, _, rfl, run_takeDeferred hK, ?_⟩⟩
    refine ⟨_, results_tmp2 rfl _ _ _, rfl, hB.trans (belowK_b (w := w) (Nat.le_refl _) W D _ _ (by omega) hK rfl rfl)⟩
  case stop =>
    rintro D c pre W _ _ h _
    exact h.elim
end Go.Proofs.Ythpjfhgpmcmdiaa
