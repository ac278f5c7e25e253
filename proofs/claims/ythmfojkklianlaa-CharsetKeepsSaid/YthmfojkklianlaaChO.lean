/-
  The program's Fold.
-/
import Derived.Test.YthmfojkklianlaaChV
import Derived.Lib.QuietBelow
namespace Go.Proofs.Ythmfojkklianlaa
open Go.RowKit Go.Shelf
attribute [local go_sem] Oper.semAt_some

set_option maxHeartbeats 1000000 in
theorem chfold_bad (s : ByteArray) (_hs : s.size ≤ 4000) (W L : Int) (h : W < 1 ∨ 1 ≤ W ∧ L < 1) (w : World) :
    Calls Try.prog 11 #[.string s, .int .i64 W, .int .i64 L] w fun e w' => ∃ a cap, e = .returned (.tuple #[.slice a 0 cap, .int .i64 0, .int .i64 1]) ∧ Below w.heap.size w w' := by
  have hb0 : Below w.heap.size w (w.alloc (.cells #[.int .i64 L] 3)) := (Below.refl _ w).alloc (Nat.le_refl _) _
  rcases h with h | ⟨h, h2⟩
  · go_enter Try.func11, Try.ntmps11
    go_wp2
    go_returns
    exact ⟨none, 0, rfl, hb0⟩
  · have h' : ¬ W < 1 := by omega
    go_enter Try.func11, Try.ntmps11
    go_wp2
    go_returns
    exact ⟨⟨none, 0, rfl⟩, hb0⟩

/-- One owned row stays while no row of cells is written. -/
theorem own_grownC {w w' : World} {B e size n : Nat} {v : Value} {xs : List Value} {row : Option Nat} (h : w.ownsRow B e size v n xs) (hg : w.grownBy w' row) (hr : ∀ r, row = some r → ∃ o : Obj, w.heap[r]? = some o ∧ o.isCells = false) : w'.ownsRow B e size v n xs := by
  refine ⟨h.1, ?_⟩
  rcases h.2 with h0 | ⟨g, cap, cur, hv, hB, hgg, rest⟩
  · exact .inl h0
  · refine .inr ⟨g, cap, cur, hv, hB, (hg.block g (Array.getElem?_eq_some_iff.1 hgg).1 (fun e => ?_)).trans hgg, rest⟩
    obtain ⟨o, ho, hc⟩ := hr g e.symm
    rw [hgg] at ho
    cases ho
    cases hc

/-- append, at a step of a region that draws its order, inside a fence. -/
theorem stepIn_append {F : Fence} {n : Nat} {P : Program} {ops : Array Oper} {o : Oper} {a : Act} {w : World} {K : Act → World → Prop} {Q : Exit → Act → World → Prop} {E : Prop} (hgd : o.guard = none) (s x : Operand) (t : TypeId)
    (ho : o.op = .call { callee := .builtin .append, args := #[s, x], argTypes := #[t, t] }) {v y v' : Value} {w' : World} (hs : a.eval s = v) (hx : a.eval x = y)
    (hrun : (Builtin.append_ #[t, t] o.type #[v, y]).run P w = .ok v' w') (h : K (a.put o.dst v') w') :
    if Region.wanted o (yielded ops a.tmps) = true then Oper.wpIn F n P o a w K Q else E := by
  have hw : Region.wanted o (yielded ops a.tmps) = true := by simp [Region.wanted, hgd]
  rw [if_pos hw]
  unfold Oper.wpIn
  refine ⟨?_, ?_⟩
  · simp [Oper.about, ho, resolve, Target.leads, Sem.run_pure]
  · rw [Oper.semAt_plain F _ _ (by rw [ho]; intro c hc'; cases hc')]
    simp [execOp, ho, resolve, invoke, builtin, hs, hx, hrun, Result.andThen]
    exact h

/-- Lines so far: the row, the box of the number of lines. -/
def FW (w : World) (B L : Nat) (ps : List (List UInt8)) (X : World) : Prop :=
  (∃ v, X.cell? ⟨w.heap.size + 1, 0, none⟩ = some v ∧ X.ownsRow B 9 1 v ps.length (strVals ps)) ∧ X.frozen? ⟨w.heap.size + 1, 0, none⟩ = false ∧ X.cell? ⟨w.heap.size, 0, none⟩ = some (.int .i64 (L : Int)) ∧ Below w.heap.size w X ∧ B ≤ X.heap.size
theorem FW.grown {w : World} {B L : Nat} {ps : List (List UInt8)} {X Y : World} {row : Option Nat} (h : FW w B L ps X) (hB : w.heap.size + 2 ≤ B) (hg : X.grownBy Y row) (hr : ∀ r, row = some r → B ≤ r ∧ ∃ o : Obj, X.heap[r]? = some o ∧ o.isCells = false) : FW w B L ps Y := by
  obtain ⟨⟨v, hc, ho⟩, hf, hL, hb, hz⟩ := h
  have hr2 := fun r e => (hr r e).2
  exact ⟨⟨v, cell_kept hc hg hr2, own_grownC ho hg hr2⟩, (frozen_kept hc hg hr2).trans hf, cell_kept hL hg hr2, hb.grown hg hb.size (fun k e => by have := (hr k e).1; omega), Nat.le_trans hz hg.size⟩

theorem fold_step {w X X2 : World} {B Q L : Nat} {ps : List (List UInt8)} {p : List UInt8} {v : Value} (hc : X.cell? ⟨w.heap.size + 1, 0, none⟩ = some v) (hown : X.ownsRow B 9 1 v ps.length (strVals ps)) (hf : X.frozen? ⟨w.heap.size + 1, 0, none⟩ = false)
    (hcL : X.cell? ⟨w.heap.size, 0, none⟩ = some (.int .i64 (L : Int))) (hb : Below w.heap.size w X) (hz : B ≤ X.heap.size) (hQ : w.heap.size + 2 ≤ Q) (hQB : Q + 2 = B) (hps : ps.length ≤ 4000) (hl : Below X.heap.size X X2) :
    ∃ a cap X3, (Builtin.append_ #[29, 29] 29 #[v, .slice (some ⟨X2.heap.size, 0, none⟩) 1 1]).run Try.prog (X2.alloc (.cells #[.string ⟨p.toArray⟩] 9)) = .ok (.slice a (ps.length + 1) cap) X3 ∧
      X2.cell? ⟨w.heap.size + 1, 0, none⟩ = some v ∧ (X2.alloc (.cells #[.string ⟨p.toArray⟩] 9)).cell? ⟨w.heap.size + 1, 0, none⟩ = some v ∧ X3.cell? ⟨w.heap.size + 1, 0, none⟩ = some v ∧ X3.frozen? ⟨w.heap.size + 1, 0, none⟩ = false ∧ (X3.setCell ⟨w.heap.size + 1, 0, none⟩ (.slice a (ps.length + 1) cap)).cell? ⟨w.heap.size + 1, 0, none⟩ = some (.slice a (ps.length + 1) cap) ∧ (X3.setCell ⟨w.heap.size + 1, 0, none⟩ (.slice a (ps.length + 1) cap)).cell? ⟨w.heap.size, 0, none⟩ = some (.int .i64 (L : Int)) ∧
      KeepsFrom B X (X3.setCell ⟨w.heap.size + 1, 0, none⟩ (.slice a (ps.length + 1) cap)) ∧ Keeps2 Q X (X3.setCell ⟨w.heap.size + 1, 0, none⟩ (.slice a (ps.length + 1) cap)) ∧ FW w B L (ps ++ [p]) (X3.setCell ⟨w.heap.size + 1, 0, none⟩ (.slice a (ps.length + 1) cap)) := by
  obtain ⟨i0, hi, hz0, hz1, hz2⟩ := info_parts str_info
  have hX2 : X.heap.size ≤ X2.heap.size := hl.size
  have hown2 := own_below hown hl
  obtain ⟨v', X3, hrun, hown3, hgrow, _⟩ := run_append_own (P := Try.prog) (X2.alloc (.cells #[.string ⟨p.toArray⟩] 9)) B 29 29 9 i0 (.string ⟨#[]⟩) 1 16 Try.underlying29 hi hz0 hz1 hz2 rfl (by decide) v ps.length (strVals ps) (hown2.alloc _) ⟨X2.heap.size, 0, none⟩ 1 1 [.string ⟨p.toArray⟩] rfl (fun j u hj => by
    match j, hj with
    | 0, hj => simp at hj; subst hj; simp [Addr.add]) (fun u hu => by simp at hu; subst hu; rfl) (by unfold maxLen; omega) (by omega) (by simp; omega)
  have hsn : strVals ps ++ [.string ⟨p.toArray⟩] = strVals (ps ++ [p]) := by simp [strVals]
  rw [hsn] at hown3
  have hFX : w.heap.size + 1 < X.heap.size := by omega
  have hvb : ∀ r, v.ownBlock = some r → B ≤ r := fun r e => (hown.lt r e).1
  -- a block of cells that is below B stays
  have hkeep : ∀ k, k < B → X3.heap[k]? = X.heap[k]? := fun k hk => by
    refine (hgrow.block k (by simp; omega) (fun e => by have := hvb k e.symm; omega)).trans ?_
    exact (Below.heap_alloc X2 _ k (by omega)).trans (hl.block k (by omega))
  have cF : X3.cell? ⟨w.heap.size + 1, 0, none⟩ = some v := (World.cell?_of_block (w := X) (hkeep _ (by show w.heap.size + 1 < B; omega))).trans hc
  have fF : X3.frozen? ⟨w.heap.size + 1, 0, none⟩ = false := (World.frozen?_of_block (w := X) (hkeep _ (by show w.heap.size + 1 < B; omega))).trans hf
  have cL : X3.cell? ⟨w.heap.size, 0, none⟩ = some (.int .i64 (L : Int)) := (World.cell?_of_block (w := X) (hkeep _ (by show w.heap.size < B; omega))).trans hcL
  have hsz3 : X2.heap.size + 1 ≤ X3.heap.size := by have := hgrow.size; rw [World.size_alloc] at this; exact this
  obtain ⟨a, cap, rfl⟩ : ∃ a cap, v' = .slice a (ps.length + 1) cap := by
    rcases hown3.2 with ⟨_, h⟩ | ⟨g, cap, cur, rfl, _⟩
    · omega
    · exact ⟨_, _, rfl⟩
  have hb3 : Below w.heap.size w X3 := by
    have h2 : Below w.heap.size w X2 := hb.trans (hl.mono hb.size)
    exact (h2.alloc h2.size _).grown hgrow (by have := h2.size; simp; omega) (fun k e => by have := hvb k e; omega)
  refine ⟨a, cap, X3, hrun, (hl.cell (p := ⟨w.heap.size + 1, 0, none⟩) hFX).trans hc, (World.cell?_alloc_lt X2 _ (a := ⟨w.heap.size + 1, 0, none⟩) (by show w.heap.size + 1 < X2.heap.size; omega)).trans ((hl.cell (p := ⟨w.heap.size + 1, 0, none⟩) hFX).trans hc), cF, fF, World.cell?_setCell_same' _ _ _ (by rw [cF]; rfl), (World.cell?_setCell_other _ _ _ _ (by simp)).trans cL, ⟨?_, ?_⟩, ⟨?_, ?_⟩, ⟨⟨.slice a (ps.length + 1) cap, World.cell?_setCell_same' _ _ _ (by rw [cF]; rfl), ?_⟩, by rw [World.frozen?_setCell]; exact fF, (World.cell?_setCell_other _ _ _ _ (by simp)).trans cL, hb3.setCell (by show w.heap.size ≤ w.heap.size + 1; omega) _, by simp [World.setCell]; omega⟩⟩
  · simp [World.setCell]; omega
  · intro k o hB hk ho
    have hkX : k < X.heap.size := (Array.getElem?_eq_some_iff.1 hk).1
    rw [Below.heap_setCell _ _ _ _ (by show k ≠ w.heap.size + 1; omega)]
    have h1 : (X2.alloc (.cells #[.string ⟨p.toArray⟩] 9)).heap[k]? = some o := (Below.heap_alloc X2 _ k (by omega)).trans ((hl.block k hkX).trans hk)
    refine (hgrow.block k (by simp; omega) (fun e => ?_)).trans h1
    rcases (hown2.alloc (.cells #[.string ⟨p.toArray⟩] 9)).2 with ⟨hv, _⟩ | ⟨g, cap', cur, hv, _, hgg, _⟩
    · rw [hv] at e; cases e
    · rw [hv] at e
      simp only [Value.ownBlock, Option.some.injEq] at e
      subst e
      rw [hgg] at h1
      cases h1
      cases ho
  · intro u hu
    refine (World.cell?_setCell_other _ _ _ _ (by simp <;> omega)).trans ((World.cell?_of_block (w := X) (hkeep _ (by show Q < B; omega))).trans hu)
  · intro u hu
    refine (World.cell?_setCell_other _ _ _ _ (by simp <;> omega)).trans ((World.cell?_of_block (w := X) (hkeep _ (by show Q + 1 < B; omega))).trans hu)
  · refine ⟨by rw [List.length_append]; exact hown3.1, ?_⟩
    rw [List.length_append]
    rcases hown3.2 with ⟨h0, h⟩ | ⟨g, cap', cur, hv, hB, hgg, rest⟩
    · omega
    · exact .inr ⟨g, cap', cur, hv, hB, by rw [Below.heap_setCell _ _ _ _ (by show g ≠ w.heap.size + 1; omega)]; exact hgg, rest⟩

theorem RowS.put {w : World} {v : Value} {ps : List (List UInt8)} {D : Nat} {o o' : Obj} (h : RowS w v ps) (hD : w.heap[D]? = some o) (ho : o.isCells = false) : RowS (w.putObj D o') v ps := by
  obtain ⟨a, cap, e, hn, hc⟩ := h
  refine ⟨a, cap, e, hn, fun j hj => ?_⟩
  obtain ⟨g, e2, hg, h2⟩ := hc j hj
  rw [strVals_at hj] at h2 ⊢
  exact ⟨g, e2, by simp; exact hg, cell_kept h2 (grownBy_putObj' w D o') (fun r e => by cases e; exact ⟨o, hD, ho⟩)⟩

set_option maxRecDepth 100000 in
set_option maxHeartbeats 8000000 in
theorem chfold_any (s : ByteArray) (hs : s.size ≤ 4000) (W L : Nat) (hW : 1 ≤ W) (hW2 : W ≤ 9223372036854775807) (hL : 1 ≤ L) (hL2 : L ≤ 9223372036854775807) (w : World) :
    Calls Try.prog 11 #[.string s, .int .i64 W, .int .i64 L] w fun e w' => ∃ v, e = .returned (.tuple #[v, .int .i64 ((keptV s.data.toList W L : Nat) : Int), .int .i64 0]) ∧ RowS w' v (foldV s.data.toList W L) ∧ Below w.heap.size w w' := by
  refine (callsIn_wide (n := 6)).1 ?_
  have h1 : 1 ≤ 6 := by decide
  have h2 : 1 ≤ 6 - 1 := by decide
  have hf8 : Fence.wide.fn 8 := trivial
  have hf10 : Fence.wide.fn 20 := trivial
  have hf9 : Fence.wide.fn 19 := trivial
  have gW : ¬ (W : Int) < 1 := by omega
  have gL : ¬ (L : Int) < 1 := by omega
  have hTl : (subL s.data.toList).length ≤ 4000 := by rw [subL, List.length_map]; have := charsL_len _ s.data.toList (Nat.le_refl _); simp at this; omega
  have hfz := foldV_size s.data.toList W L
  rw [show s.data.toList.length = s.size by simp] at hfz
  have HK := hid (kept_cpl s.data.toList W L)
  have HF := hid (fold_chunks s.data.toList W L hW)
  generalize hkv : keptV s.data.toList W L = kv at HK ⊢
  generalize hfv : foldV s.data.toList W L = fv at HK HF hfz ⊢
  clear hkv hfv
  have HS := hid (fun w' : World => (callsIn_wide (n := 5)).2 (chsubst_any s hs w'))
  generalize subL s.data.toList = T at hTl HF HS
  refine callsIn_of_wp_marks Try.func11 rfl trivial ?_ rfl
  simp only [Try.ntmps11, List.size_toArray, List.length_cons, List.length_nil, Nat.reduceAdd, Nat.reduceSub, Array.replicate_succ, Array.replicate_zero, List.push_toArray, List.append_toArray, List.nil_append, List.cons_append]
  gi_wp2_with (first | (gi_at_call 8; refine (HS.out _).mono ?_; rintro e w1 ⟨rfl, hb1⟩) | (gi_at_call 19; refine (callsIn_wide.2 (pieces_any _ _ _)).mono ?_; rintro e w2 ⟨rfl, rfl⟩))
  obtain ⟨Q, hQ⟩ : ∃ Q, Q = w1.heap.size := ⟨_, rfl⟩
  have hszb : ((w.alloc (.cells #[.int .i64 (L : Int)] 3)).alloc (.cells #[.slice none 0 0] 29)).heap.size = w.heap.size + 2 := by simp
  have hQ2 : w.heap.size + 2 ≤ Q := by have := hb1.size; omega
  have hF0 : FW w (Q + 2) L [] ((w1.alloc (.cells #[.string ⟨T.toArray⟩] 9)).alloc (.cells #[.int .i64 (W : Int)] 3)) := by
    have a0 : ((w.alloc (.cells #[.int .i64 (L : Int)] 3)).alloc (.cells #[.slice none 0 0] 29)).cell? ⟨w.heap.size, 0, none⟩ = some (.int .i64 (L : Int)) := by simp [go_sem]
    have a1 : ((w.alloc (.cells #[.int .i64 (L : Int)] 3)).alloc (.cells #[.slice none 0 0] 29)).cell? ⟨w.heap.size + 1, 0, none⟩ = some (.slice none 0 0) := by simp [go_sem]
    have a2 : ((w.alloc (.cells #[.int .i64 (L : Int)] 3)).alloc (.cells #[.slice none 0 0] 29)).frozen? ⟨w.heap.size + 1, 0, none⟩ = false := by simp [go_sem]
    have b0 := (hb1.cell (p := ⟨w.heap.size, 0, none⟩) (by show w.heap.size < _; omega)).trans a0
    have b1 := (hb1.cell (p := ⟨w.heap.size + 1, 0, none⟩) (by show w.heap.size + 1 < _; omega)).trans a1
    have b2 := (hb1.frozen (p := ⟨w.heap.size + 1, 0, none⟩) (by show w.heap.size + 1 < _; omega)).trans a2
    have bw : Below w.heap.size w w1 := (((Below.refl _ w).alloc (Nat.le_refl _) _).alloc (by simp) _).trans (hb1.mono (by omega))
    have g1 := World.grownBy_alloc w1 (.cells #[.string ⟨T.toArray⟩] 9) none
    have g2 := World.grownBy_alloc (w1.alloc (.cells #[.string ⟨T.toArray⟩] 9)) (.cells #[.int .i64 (W : Int)] 3) none
    have nn : ∀ (X : World) (r : Nat), (none : Option Nat) = some r → ∃ o : Obj, X.heap[r]? = some o ∧ o.isCells = false := fun _ r e => by cases e
    exact ⟨⟨.slice none 0 0, cell_kept (cell_kept b1 g1 (nn _)) g2 (nn _), World.ownsRow_nil _ _ _ _⟩, (frozen_kept (cell_kept b1 g1 (nn _)) g2 (nn _)).trans ((frozen_kept b1 g1 (nn _)).trans b2), cell_kept (cell_kept b0 g1 (nn _)) g2 (nn _), (bw.alloc bw.size _).alloc (by have := bw.size; simp; omega) _, by rw [hQ]; simp⟩
  have hc1 : ((w1.alloc (.cells #[.string ⟨T.toArray⟩] 9)).alloc (.cells #[.int .i64 (W : Int)] 3)).cell? ⟨Q, 0, none⟩ = some (.string ⟨T.toArray⟩) := by
    rw [hQ]; simp [go_sem]
  have hc2 : ((w1.alloc (.cells #[.string ⟨T.toArray⟩] 9)).alloc (.cells #[.int .i64 (W : Int)] 3)).cell? ⟨Q + 1, 0, none⟩ = some (.int .i64 (W : Int)) := by
    rw [hQ]; simp [go_sem]
  have hzW : ((w1.alloc (.cells #[.string ⟨T.toArray⟩] 9)).alloc (.cells #[.int .i64 (W : Int)] 3)).heap.size = Q + 2 := by rw [hQ]; simp
  generalize (w1.alloc (.cells #[.string ⟨T.toArray⟩] 9)).alloc (.cells #[.int .i64 (W : Int)] 3) = W0 at hF0 hc1 hc2 hzW ⊢
  rw [← hQ]
  clear hQ hszb hb1
  refine wpIn_rangeFunc_ownG rfl h1 (gf := 25) (lb := #[.pointer (some ⟨Q, 0, none⟩), .pointer (some ⟨Q + 1, 0, none⟩)]) rfl trivial (enters_of Try.func25 (by kernel_rfl) rfl)
    (pieces_stops (6 - 1) h2 Q T hTl W hW hW2 W0 (by omega) hc1 hc2) keeps2_t (keeps2_b) (Below.refl _ _) (fun _ => rfl)
    (fun pre X => pre.length < L ∧ FW w (Q + 2) L (pre.map (fun x => lineV x.1)) X)
    (fun c pre X => c = .exit 0 ∧ pre.length = L ∧ FW w (Q + 2) L (pre.map (fun x => lineV x.1)) X)
    (fun pre X Y row h hg hr => ⟨h.1, h.2.grown (by omega) hg (by rw [hzW] at hr; exact hr)⟩)
    (fun c pre X Y row h hg hr => by
      obtain ⟨e1, e2, e3⟩ := h
      exact ⟨e1, e2, e3.grown (by omega) hg (by rw [hzW] at hr; exact hr)⟩)
    ⟨by show 0 < L; omega, hF0⟩
    (fun x => { tmps := #[.string s, .int .i64 (W : Int), .int .i64 (L : Int), undef, undef, .pointer (some ⟨w.heap.size, 0, none⟩), .slice none 0 0, .int .i64 0, .int .i64 0, .pointer (some ⟨w.heap.size + 1, 0, none⟩), .string ⟨x.1.toArray⟩, .int .i64 (W : Int), .bool false, .bool false, .int .i64 (L : Int), .bool false, .bool false, .string s, .string ⟨T.toArray⟩, .int .i64 (W : Int), .func (.func 25) #[] #[.pointer (some ⟨Q, 0, none⟩), .pointer (some ⟨Q + 1, 0, none⟩)], .string ⟨x.1.toArray⟩, undef, undef, undef, undef, undef, undef, undef, undef, undef, undef, undef, undef, undef, undef], defers := [] }) ?assign ?body ?done ?stop
  case assign =>
    intro l x X K hK
    gi_wp2
    exact hK
  case body =>
    rintro l pre x X ⟨hlt, ⟨v, hc, hown⟩, hf, hcL, hB, hz⟩ hN
    rw [hzW]
    gi_wp2
    have hln := hid (fun w' : World => (callsIn_wide (n := 6 - 1 - 1 - 1)).2 (chline_any x.1 x.2.1 x.2.2 w'))
    refine wpIn_region_any (by kernel_rfl) ?_
    change wpAnyIn _ _ _ _ _ _ _ _ _ (World.drew _)
    iterate 6 all_goals (
      (first
        | (refine wpAnyIn_ready (rs := [0, 1]) ?_ (by simp) ?_; (focus (decide +kernel)); refine AllReadyIn.cons rfl (fun K hK => ?_) (AllReadyIn.cons rfl (fun K hK => ?_) AllReadyIn.nil))
        | (refine wpAnyIn_ready (rs := [0, 2]) ?_ (by simp) ?_; (focus (decide +kernel)); refine AllReadyIn.cons rfl (fun K hK => ?_) (AllReadyIn.cons rfl (fun K hK => ?_) AllReadyIn.nil))
        | (refine wpAnyIn_ready (rs := [0, 3]) ?_ (by simp) ?_; (focus (decide +kernel)); refine AllReadyIn.cons rfl (fun K hK => ?_) (AllReadyIn.cons rfl (fun K hK => ?_) AllReadyIn.nil))
        | (refine wpAnyIn_ready (rs := [0]) ?_ (by simp) ?_; (focus (decide +kernel)); refine AllReadyIn.cons rfl (fun K hK => ?_) AllReadyIn.nil)
        | (refine wpAnyIn_ready (rs := [1]) ?_ (by simp) ?_; (focus (decide +kernel)); refine AllReadyIn.cons rfl (fun K hK => ?_) AllReadyIn.nil)
        | (refine wpAnyIn_ready (rs := [2]) ?_ (by simp) ?_; (focus (decide +kernel)); refine AllReadyIn.cons rfl (fun K hK => ?_) AllReadyIn.nil)
        | (refine wpAnyIn_ready (rs := [3]) ?_ (by simp) ?_; (focus (decide +kernel)); refine AllReadyIn.cons rfl (fun K hK => ?_) AllReadyIn.nil)
        | (refine wpAnyIn_ready (rs := [4]) ?_ (by simp) ?_; (focus (decide +kernel)); refine AllReadyIn.cons rfl (fun K hK => ?_) AllReadyIn.nil)
        | (refine wpAnyIn_ready (rs := [5]) ?_ (by simp) ?_; (focus (decide +kernel)); refine AllReadyIn.cons rfl (fun K hK => ?_) AllReadyIn.nil))
      <;> (first
        | (refine stepIn_append rfl _ _ _ rfl rfl rfl hrun ?_; (try go_simp); refine hK _ _ ?_; clear hK K)
        | (go_simp; refine hK _ _ ?_; clear hK K)
        | (go_simp; gi_wp2_with (gi_at_call 20; refine (CallsIn.inRound l (hln.out _)).mono ?_; rintro e X2 ⟨rfl, hbl⟩; obtain ⟨ra, rcap, X3, hrun, q1, q0, q2, q3, q4, q5, q6, q7, q8⟩ := fold_step (Q := Q) (p := lineV x.1) hc hown hf hcL hB hz hQ2 rfl (by simp; omega) ((Below.refl _ X).drew.trans hbl); simp only [List.length_map] at hrun q2 q3 q4 q5 q6 q7 q8))))
    all_goals refine wpAnyIn_done (by kernel_rfl) ?_ _
    all_goals clear hrun q0 q1 q2 q3 hbl hc hown hf hcL hz hB
    all_goals generalize X3.setCell ⟨w.heap.size + 1, 0, none⟩ (.slice ra (pre.length + 1) rcap) = Y at q4 q5 q6 q7 q8 ⊢
    all_goals (
      have Q6 := hid q6
      have Q7 := hid q7
      have Q8 := hid q8
      clear q6 q7 q8
      by_cases hL1 : pre.length + 1 = L
      · have hq : (((pre.length : Int) + 1) == (L : Int)) = true := by rw [beq_iff_eq]; omega
        gi_wp2
        exact ⟨Q6.out, rfl, by simp; omega, by rw [List.map_append]; exact Q8.out⟩
      · have hq : (((pre.length : Int) + 1) == (L : Int)) = false := by rw [beq_eq_false_iff_ne]; omega
        gi_wp2
        exact ⟨Q6.out, Q7.out, by simp; omega, by rw [List.map_append]; exact Q8.out⟩)
  case' done =>
    rintro D ys X hD hys ⟨hlt, hfw⟩ hK
    have e : ys.map (fun x => lineV x.1) = fv := by
      have h := hys (L - ys.length)
      rw [show ys.length + (L - ys.length) = L by omega] at h
      rw [HF.out, h, List.map_map]; rfl
    rw [e] at hfw
    clear hys hlt e
  case' stop =>
    rintro D c pre X hD hpre ⟨rfl, hlen, hfw⟩ hK
    have e : pre.map (fun x => lineV x.1) = fv := by
      rw [hlen] at hpre
      rw [HF.out, hpre, List.map_map]; rfl
    rw [e] at hfw
    clear hpre hlen e
  all_goals (
    obtain ⟨⟨v, hc, hown⟩, hf, hcL, hB, hz⟩ := hfw
    gi_wp2
    have hrs := RowS.of hown
    have hXb : w.heap.size + 2 ≤ X.heap.size := by omega
    have ez : (⟨fv.flatten.toArray⟩ : ByteArray).size ≤ 4000 := by
      have e : (⟨fv.flatten.toArray⟩ : ByteArray).size = fv.flatten.length := rfl
      rw [e]; omega
    have cJ := hid (fun d os => Calls.regrown_of (chjoin_any v fv (by omega) (by omega) (Sort.grow (redrawn X d) os) (hrs.below (below_regrown X d os) (Nat.le_refl _))))
    have cS := hid (fun d os => Calls.regrown_of (chsame_any s ⟨fv.flatten.toArray⟩ hs ez (Sort.grow (redrawn X d) os)))
    have hcc := fun d os => cell_regrown hc d os
    have hkk := HK.out
    have el : (⟨fv.flatten.toArray⟩ : ByteArray).data.toList = fv.flatten := by simp
    rw [el, ← hkk] at cS
    clear el hkk hfz hc hf hcL hown
    refine wpIn_wide.2 ?_
    refine wp_region_quiet_below (by kernel_rfl) (by kernel_rfl) ?_
    repeat (quiet_step (first | (go_at_call 13; with_reducible exact cJ.out _ _) | (go_at_call 21; with_reducible exact cS.out _ _)))
    refine wpQuiet_nil ?_
    intro _ hw'
    obtain ⟨⟨dq, osq⟩, hw''⟩ := hw'
    subst hw''
    have hbq := below_regrown X dq osq
    generalize Sort.grow (redrawn X dq) osq = Y at hbq ⊢
    have hK2 := (hbq.block D (Array.getElem?_eq_some_iff.1 hK).1).trans hK
    gi_wp2
    refine ⟨by simp, .inl ⟨_, _, rfl, run_takeDeferred hK2, ?_⟩⟩
    refine ⟨.tuple #[v, .int .i64 (kv : Int), .int .i64 0], ?_, v, rfl, (hrs.below hbq (Nat.le_refl _)).put hK2 rfl, (hB.trans (hbq.mono hB.size)).trans (belowK_b (w := w) (Nat.le_refl _) Y D _ _ (by omega) hK2 rfl rfl)⟩
    simp [results, Try.f11, go_sem])
end Go.Proofs.Ythmfojkklianlaa
