/-
  The table of currencies: a map that each call makes anew.
-/
import Derived.Test.YtjpndajbkemnlaaDoorWords
import Derived.RangeFuncBox
import Derived.RangeFuncWrites
import Derived.Maps.OwnIn
import Derived.Maps.OwnSet
import Derived.StringKeys
namespace Go.Proofs.YtjpndajbkemnlaaDoor
open Go.RowKit Go.Shelf Go.Maps
attribute [local go_sem] Oper.semAt_some

def txtNone : List UInt8 := [66, 73, 70, 32, 67, 76, 80, 32, 68, 74, 70, 32, 71, 78, 70, 32, 73, 83, 75, 32, 74, 80, 89, 32, 75, 77, 70, 32, 75, 82, 87, 32, 80, 89, 71, 32, 82, 87, 70, 32, 85, 71, 88, 32, 86, 78, 68, 32, 86, 85, 86, 32, 88, 65, 70, 32, 88, 79, 70, 32, 88, 80, 70]
def txtTwo : List UInt8 := [65, 69, 68, 32, 65, 85, 68, 32, 66, 82, 76, 32, 67, 65, 68, 32, 67, 72, 70, 32, 67, 78, 89, 32, 67, 90, 75, 32, 68, 75, 75, 32, 69, 71, 80, 32, 69, 85, 82, 32, 71, 66, 80, 32, 72, 75, 68, 32, 72, 85, 70, 32, 73, 68, 82, 32, 73, 76, 83, 32, 73, 78, 82, 32, 75, 69, 83, 32, 77, 65, 68, 32, 77, 88, 78, 32, 77, 89, 82, 32, 78, 71, 78, 32, 78, 79, 75, 32, 78, 90, 68, 32, 80, 72, 80, 32, 80, 76, 78, 32, 81, 65, 82, 32, 82, 79, 78, 32, 83, 65, 82, 32, 83, 69, 75, 32, 83, 71, 68, 32, 84, 72, 66, 32, 84, 82, 89, 32, 84, 87, 68, 32, 85, 65, 72, 32, 85, 83, 68, 32, 90, 65, 82]
def txtThree : List UInt8 := [66, 72, 68, 32, 73, 81, 68, 32, 74, 79, 68, 32, 75, 87, 68, 32, 76, 89, 68, 32, 79, 77, 82, 32, 84, 78, 68]
def txtFour : List UInt8 := [67, 76, 70, 32, 85, 89, 87]
def lstNone : List Wrd := wrds (wds [] txtNone)
def lstTwo : List Wrd := wrds (wds [] txtTwo)
def lstThree : List Wrd := wrds (wds [] txtThree)
def lstFour : List Wrd := wrds (wds [] txtFour)
theorem wdNone : Wd txtNone lstNone := wd_wds txtNone [] (by simp) (by decide +kernel)
theorem wdTwo : Wd txtTwo lstTwo := wd_wds txtTwo [] (by simp) (by decide +kernel)
theorem wdThree : Wd txtThree lstThree := wd_wds txtThree [] (by simp) (by decide +kernel)
theorem wdFour : Wd txtFour lstFour := wd_wds txtFour [] (by simp) (by decide +kernel)
theorem lenNone : lstNone.length = 16 := by decide +kernel
theorem lenTwo : lstTwo.length = 36 := by decide +kernel
theorem lenThree : lstThree.length = 7 := by decide +kernel
theorem lenFour : lstFour.length = 2 := by decide +kernel

/-- Words are put in, each with v digits. -/
def putAll {H : Type} (D : DataW H) (xs : List Wrd) (v : Int) : DataW H := xs.foldl (fun D x => D.put (.string x.1) (.lit (.int .i64 v))) D
theorem putAll_snoc {H : Type} (D : DataW H) (xs : List Wrd) (x : Wrd) (v : Int) : putAll D (xs ++ [x]) v = (putAll D xs v).put (.string x.1) (.lit (.int .i64 v)) := by simp [putAll]
/-- The table, as a datum. -/
def tabD {H : Type} : DataW H := putAll (putAll (putAll (putAll (.map []) lstNone 0) lstTwo 2) lstThree 3) lstFour 4

theorem run_makeMapH (w : World) : (Instr.makeMap 45 (some (.int .i64 64))).run Tryd.prog w = .ok (.map (some w.heap.size)) (w.alloc (.map #[] 0)) := by
  simp [Instr.makeMap, run_underlying Tryd.underlying45, asInt, asIntOf, Result.andThen, Sem.run_bind]
theorem lawS : Keyed Tryd.prog 9 := string_keyed Tryd.underlying9
theorem zeroI (w : World) : (zeroValue 3).run Tryd.prog w = .ok (.int .i64 0) w := by kernel_rfl

/-- Between two words: the box, the map, the marks of the loops that are over, and nothing that lay has turned. -/
def TS (H : Type) (w : World) (k : Nat) (Ds : List Nat) (D : DataW H) (W : World) : Prop :=
  (W.cell? ⟨w.heap.size + 1, 0, none⟩ = some (.map (some w.heap.size)) ∧ W.ownsMap Tryd.prog 9 (plainElem (H := H) Tryd.prog 3) w.heap.size k D) ∧
    (∀ d ∈ Ds, w.heap.size + 2 ≤ d ∧ W.heap[d]? = some (.deferred (some []))) ∧ Below w.heap.size w W

theorem heap_lt {W : World} {d : Nat} {o : Obj} (h : W.heap[d]? = some o) : d < W.heap.size := (Array.getElem?_eq_some_iff.1 h).1

theorem TS.own {H : Type} {w : World} {Ds : List Nat} {B : Nat} (hB : w.heap.size + 2 ≤ B) (hD : ∀ d ∈ Ds, d < B) {β : Type} (f : β → Nat) (g : β → DataW H) :
    OwnFrom B (fun (s : β) W => TS H w (f s) Ds (g s) W) := fun s X Y row hs hg hr =>
  ⟨⟨cell_kept hs.1.1 hg (fun r e => (hr r e).2), hs.1.2.kept hg (fun e => by have := (hr _ e.symm).1; omega)⟩,
   fun d hd => ⟨(hs.2.1 d hd).1, (hg.block d (heap_lt (hs.2.1 d hd).2) (fun e => by have := (hr _ e.symm).1; have := hD d hd; omega)).trans (hs.2.1 d hd).2⟩,
   ownFrom_below (β := β) (Nat.le_refl w.heap.size) (by omega) s X Y row hs.2.2 hg hr⟩

theorem TS.alloc {H : Type} {w : World} {k : Nat} {Ds : List Nat} {D : DataW H} {W : World} (h : TS H w k Ds D W) (o : Obj) : TS H w k Ds D (W.alloc o) :=
  TS.own (B := W.heap.size + w.heap.size + 2) (by omega) (fun d hd => by have := heap_lt (h.2.1 d hd).2; omega) (fun _ : Unit => k) (fun _ => D) () W (W.alloc o) none h (World.grownBy_alloc W o none) (fun _ e => by cases e)

/-- A store into the map. -/
theorem TS.store {H : Type} {w : World} {k : Nat} {Ds : List Nat} {D D' : DataW H} {W w1 : World} (h : TS H w k Ds D W) (hown : w1.ownsMap Tryd.prog 9 (plainElem (H := H) Tryd.prog 3) w.heap.size (k + 1) D') (hg : W.grownBy w1 (some w.heap.size)) :
    TS H w (k + 1) Ds D' w1 := by
  obtain ⟨⟨hc, es, ck, hh, hr⟩, hd, hb⟩ := h
  exact ⟨⟨cell_kept hc hg (fun r e => by cases e; exact ⟨_, hh, rfl⟩), hown⟩,
    fun d hd' => ⟨(hd d hd').1, (hg.block d (heap_lt (hd d hd').2) (fun e => by have := (hd d hd').1; cases e; omega)).trans (hd d hd').2⟩,
    hb.grown hg hb.size (fun k e => by cases e; exact Nat.le_refl _)⟩
theorem TS.storeW {H : Type} {w : World} {b : Nat} {Ds : List Nat} {D : DataW H} {W w1 : World} {pre : List Wrd} {x : Wrd} {v : Int} (h : TS H w (b + pre.length) Ds (putAll D pre v) W)
    (hown : w1.ownsMap Tryd.prog 9 (plainElem (H := H) Tryd.prog 3) w.heap.size (b + pre.length + 1) ((putAll D pre v).put (.string x.1) (.lit (.int .i64 v)))) (hg : W.grownBy w1 (some w.heap.size)) :
    TS H w (b + (pre ++ [x]).length) Ds (putAll D (pre ++ [x]) v) w1 := by
  rw [putAll_snoc, List.length_append]
  exact h.store hown hg
theorem TS.next {H : Type} {w : World} {k : Nat} {Ds : List Nat} {D : DataW H} {W : World} (h : TS H w k Ds D W) (v : Int) : TS H w (k + ([] : List Wrd).length) Ds (putAll D [] v) W := h
theorem TS.keeps {H : Type} {w : World} {k : Nat} {Ds : List Nat} {D : DataW H} {W w1 : World} (h : TS H w k Ds D W) (hg : W.grownBy w1 (some w.heap.size)) (B : Nat) : KeepsCell B W w1 := by
  obtain ⟨⟨hc, es, ck, hh, hr⟩, hd, hb⟩ := h
  exact fun v hv => cell_kept hv hg (fun r e => by cases e; exact ⟨_, hh, rfl⟩)

/-- A loop is over: its mark. -/
theorem TS.mark {H : Type} {w : World} {k : Nat} {Ds : List Nat} {D : DataW H} {W : World} (h : TS H w k Ds D W) {d : Nat} (hd : w.heap.size + 2 ≤ d) (hK : W.heap[d]? = some (.deferred (some []))) : TS H w k (d :: Ds) D W :=
  ⟨h.1, fun x hx => (List.mem_cons.1 hx).elim (fun e => by subst e; exact ⟨hd, hK⟩) (h.2.1 x), h.2.2⟩
/-- A mark is taken in. -/
theorem TS.take {H : Type} {w : World} {k : Nat} {Ds : List Nat} {D : DataW H} {W : World} {d : Nat} (h : TS H w k (d :: Ds) D W) (hn : d ∉ Ds) : TS H w k Ds D (W.putObj d (.deferred none)) := by
  have h0 := h.2.1 d List.mem_cons_self
  have hg : W.grownBy (W.putObj d (.deferred none)) (some d) := grownBy_putObj' W d _
  exact ⟨⟨cell_kept h.1.1 hg (fun r e => by cases e; exact ⟨_, h0.2, rfl⟩), h.1.2.kept hg (fun e => by cases e; have := h0.1; omega)⟩,
   fun x hx => ⟨(h.2.1 x (List.mem_cons_of_mem _ hx)).1, (hg.block x (heap_lt (h.2.1 x (List.mem_cons_of_mem _ hx)).2) (fun e => by cases e; exact hn hx)).trans (h.2.1 x (List.mem_cons_of_mem _ hx)).2⟩,
   ownFrom_below (β := Unit) (Nat.le_refl w.heap.size) (B := w.heap.size) (Nat.le_refl _) () W _ (some d) h.2.2 hg (fun r e => by cases e; exact ⟨by have := h0.1; omega, _, h0.2, rfl⟩)⟩

set_option maxRecDepth 100000 in
set_option maxHeartbeats 8000000 in
theorem table_any (H : Type) (w : World) :
    Calls Tryd.prog 20 #[] w fun e W' => e = .returned (.map (some w.heap.size)) ∧ W'.ownsMap Tryd.prog 9 (plainElem (H := H) Tryd.prog 3) w.heap.size 61 tabD ∧ Below w.heap.size w W' := by
  refine (callsIn_wide (n := 6)).1 ?_
  have hfW : Fence.wide.fn 30 := trivial
  have hmm := run_makeMapH
  have h1 : 1 ≤ 6 := by decide
  have h2 : 1 ≤ 6 - 1 := by decide
  refine callsIn_of_wp_marks Tryd.func20 rfl trivial ?_ rfl
  simp only [Tryd.ntmps20, List.size_toArray, List.length_nil, Nat.reduceSub, Array.replicate_succ, Array.replicate_zero, List.push_toArray, List.append_toArray, List.nil_append, List.cons_append]
  gi_wp2_with (gi_at_call 30; refine (words_in _ txtNone _).mono ?_; rintro e w' ⟨rfl, rfl⟩)
  have hm0 := World.ownsMap_made w Tryd.prog 9 (plainElem (H := H) Tryd.prog 3)
  have bS := Boxed.new (w.alloc (.map #[] 0)) 45 (.map (some w.heap.size))
  have bN := Boxed.new ((w.alloc (.map #[] 0)).alloc (.cells #[.map (some w.heap.size)] 45)) 9 (.string ⟨txtNone.toArray⟩)
  simp only [World.size_alloc] at bS bN
  have hB0 : Below w.heap.size w ((w.alloc (.map #[] 0)).alloc (.cells #[.map (some w.heap.size)] 45)) := ((Below.refl _ w).alloc (Nat.le_refl _) _).alloc (by simp) _
  have T0 : TS H w 0 [] (.map []) (((w.alloc (.map #[] 0)).alloc (.cells #[.map (some w.heap.size)] 45)).alloc (.cells #[.string ⟨txtNone.toArray⟩] 9)) :=
    TS.alloc ⟨⟨bS.cell, hm0.alloc _⟩, (fun d hd => by cases hd), hB0⟩ _
  refine wpIn_rangeFunc_ownG rfl h1 (gf := 44) (lb := #[.pointer (some ⟨(w.heap.size + 1 + 1), 0, none⟩)]) rfl trivial (enters_of Tryd.func44 (by kernel_rfl) rfl)
    (words_stops _ h2 (w.heap.size + 1 + 1) txtNone (by decide +kernel) lstNone wdNone _ (by simp) bN.cell) keepsCell_t (keepsCell_b) (Below.refl _ _) (fun _ => rfl)
    (fun pre W => TS H w (0 + pre.length) [] (putAll (.map []) pre 0) W)
    (fun _ _ _ => False)
    (TS.own (by simp) (fun d hd => by cases hd) _ _)
    (fun _ _ _ _ _ hs _ _ => hs)
    (T0.next 0)
    (fun x => { tmps := #[.map none, .pointer (some ⟨w.heap.size + 1, 0, none⟩), .string ⟨x.1.toArray⟩, undef, undef, undef, .map (some w.heap.size), .func (.func 44) #[] #[.pointer (some ⟨w.heap.size + 1 + 1, 0, none⟩)], .string ⟨x.1.toArray⟩, undef, undef, undef, undef, undef, undef, undef, undef, undef, undef, undef, undef, undef, undef, undef], defers := [] }) ?assign0 ?body0 ?done0 ?stop0
  case assign0 =>
    intro l x W K hK
    gi_wp2
    exact hK
  case body0 =>
    rintro l pre x W hT hlt
    rw [lenNone] at hlt
    have hc := hT.1.1
    have hown := hT.1.2
    have hkey : keyOf Tryd.prog 9 (.string ⟨x.1.toArray⟩) = some (.string x.1) := WideMaps.keyOf_string_mk Tryd.underlying9 (s := ⟨x.1.toArray⟩) x.2
    gi_wp2_with (gi_at_mapUpdate; refine wpListIn_mapUpdate_own _ rfl _ _ _ 45 rfl 9 3 lawS Tryd.underlying45 _ w.heap.size (0 + pre.length) _ rfl hown (by unfold maxLen; omega) _ _ _ rfl rfl hkey _ [] (plainElem_int Tryd.underlying3 (by decide)) ?_; intro w1 hown1 hgrow1)
    exact ⟨KeepsFrom.of_grownBy hgrow1 (fun j e => by cases e; simp; omega), hT.keeps hgrow1 _, hT.storeW hown1 hgrow1⟩
  case stop0 =>
    rintro D c pre W _ _ h _
    exact h.elim
  case done0 =>
    rintro D0 ys W1 hD0 rfl hT0 hK0
    rw [lenNone] at hT0
    have hl1 := heap_lt hK0
    simp only [World.size_alloc] at hD0
    have hz1 : w.heap.size + 2 ≤ W1.heap.size := by omega
    have T1 : TS H w 16 (D0 :: []) (putAll (.map []) lstNone 0) W1 := hT0.mark (d := D0) (by omega) hK0
    clear hT0
    gi_wp2_with (gi_at_call 30; refine (words_in _ txtTwo _).mono ?_; rintro e w' ⟨rfl, rfl⟩)
    have bN1 := Boxed.new W1 9 (.string ⟨txtTwo.toArray⟩)
    refine wpIn_rangeFunc_ownG rfl h1 (gf := 44) (lb := #[.pointer (some ⟨W1.heap.size, 0, none⟩)]) rfl trivial (enters_of Tryd.func44 (by kernel_rfl) rfl)
      (words_stops _ h2 W1.heap.size txtTwo (by decide +kernel) lstTwo wdTwo _ (by simp) bN1.cell) keepsCell_t (keepsCell_b) (Below.refl _ _) (fun _ => rfl)
      (fun pre W => TS H w (16 + pre.length) [D0] (putAll (putAll (.map []) lstNone 0) pre 2) W)
      (fun _ _ _ => False)
      (TS.own (by simp; omega) (fun d hd => by have := heap_lt (T1.2.1 d hd).2; simp; omega) _ _)
      (fun _ _ _ _ _ hs _ _ => hs)
      ((T1.alloc _).next 2)
      (fun x => { tmps := #[.map none, .pointer (some ⟨w.heap.size + 1, 0, none⟩), undef, .string ⟨x.1.toArray⟩, undef, undef, .map (some w.heap.size), .func (.func 44) #[] #[.pointer (some ⟨w.heap.size + 1 + 1, 0, none⟩)], undef, undef, undef, .func (.func 44) #[] #[.pointer (some ⟨W1.heap.size, 0, none⟩)], .string ⟨x.1.toArray⟩, undef, undef, undef, undef, undef, undef, undef, undef, undef, undef, undef], defers := [] }) ?assign1 ?body1 ?done1 ?stop1
    case assign1 =>
      intro l x W K hK
      gi_wp2
      exact hK
    case body1 =>
      rintro l pre x W hT hlt
      rw [lenTwo] at hlt
      have hc := hT.1.1
      have hown := hT.1.2
      have hkey : keyOf Tryd.prog 9 (.string ⟨x.1.toArray⟩) = some (.string x.1) := WideMaps.keyOf_string_mk Tryd.underlying9 (s := ⟨x.1.toArray⟩) x.2
      gi_wp2_with (gi_at_mapUpdate; refine wpListIn_mapUpdate_own _ rfl _ _ _ 45 rfl 9 3 lawS Tryd.underlying45 _ w.heap.size (16 + pre.length) _ rfl hown (by unfold maxLen; omega) _ _ _ rfl rfl hkey _ [] (plainElem_int Tryd.underlying3 (by decide)) ?_; intro w1 hown1 hgrow1)
      exact ⟨KeepsFrom.of_grownBy hgrow1 (fun j e => by cases e; simp; omega), hT.keeps hgrow1 _, hT.storeW hown1 hgrow1⟩
    case stop1 =>
      rintro D c pre W _ _ h _
      exact h.elim
    case done1 =>
      rintro D1 ys W2 hD1 rfl hT1 hK1
      rw [lenTwo] at hT1
      have hl2 := heap_lt hK1
      simp only [World.size_alloc] at hD1
      have hz2 : w.heap.size + 2 ≤ W2.heap.size := by omega
      have T2 : TS H w 52 (D1 :: [D0]) (putAll (putAll (.map []) lstNone 0) lstTwo 2) W2 := hT1.mark (d := D1) (by omega) hK1
      clear hT1
      gi_wp2_with (gi_at_call 30; refine (words_in _ txtThree _).mono ?_; rintro e w' ⟨rfl, rfl⟩)
      have bN2 := Boxed.new W2 9 (.string ⟨txtThree.toArray⟩)
      refine wpIn_rangeFunc_ownG rfl h1 (gf := 44) (lb := #[.pointer (some ⟨W2.heap.size, 0, none⟩)]) rfl trivial (enters_of Tryd.func44 (by kernel_rfl) rfl)
        (words_stops _ h2 W2.heap.size txtThree (by decide +kernel) lstThree wdThree _ (by simp) bN2.cell) keepsCell_t (keepsCell_b) (Below.refl _ _) (fun _ => rfl)
        (fun pre W => TS H w (52 + pre.length) [D1, D0] (putAll (putAll (putAll (.map []) lstNone 0) lstTwo 2) pre 3) W)
        (fun _ _ _ => False)
        (TS.own (by simp; omega) (fun d hd => by have := heap_lt (T2.2.1 d hd).2; simp; omega) _ _)
        (fun _ _ _ _ _ hs _ _ => hs)
        ((T2.alloc _).next 3)
        (fun x => { tmps := #[.map none, .pointer (some ⟨w.heap.size + 1, 0, none⟩), undef, undef, .string ⟨x.1.toArray⟩, undef, .map (some w.heap.size), .func (.func 44) #[] #[.pointer (some ⟨w.heap.size + 1 + 1, 0, none⟩)], undef, undef, undef, .func (.func 44) #[] #[.pointer (some ⟨W1.heap.size, 0, none⟩)], undef, undef, undef, .func (.func 44) #[] #[.pointer (some ⟨W2.heap.size, 0, none⟩)], .string ⟨x.1.toArray⟩, undef, undef, undef, undef, undef, undef, undef], defers := [] }) ?assign2 ?body2 ?done2 ?stop2
      case assign2 =>
        intro l x W K hK
        gi_wp2
        exact hK
      case body2 =>
        rintro l pre x W hT hlt
        rw [lenThree] at hlt
        have hc := hT.1.1
        have hown := hT.1.2
        have hkey : keyOf Tryd.prog 9 (.string ⟨x.1.toArray⟩) = some (.string x.1) := WideMaps.keyOf_string_mk Tryd.underlying9 (s := ⟨x.1.toArray⟩) x.2
        gi_wp2_with (gi_at_mapUpdate; refine wpListIn_mapUpdate_own _ rfl _ _ _ 45 rfl 9 3 lawS Tryd.underlying45 _ w.heap.size (52 + pre.length) _ rfl hown (by unfold maxLen; omega) _ _ _ rfl rfl hkey _ [] (plainElem_int Tryd.underlying3 (by decide)) ?_; intro w1 hown1 hgrow1)
        exact ⟨KeepsFrom.of_grownBy hgrow1 (fun j e => by cases e; simp; omega), hT.keeps hgrow1 _, hT.storeW hown1 hgrow1⟩
      case stop2 =>
        rintro D c pre W _ _ h _
        exact h.elim
      case done2 =>
        rintro D2 ys W3 hD2 rfl hT2 hK2
        rw [lenThree] at hT2
        have hl3 := heap_lt hK2
        simp only [World.size_alloc] at hD2
        have hz3 : w.heap.size + 2 ≤ W3.heap.size := by omega
        have T3 : TS H w 59 (D2 :: [D1, D0]) (putAll (putAll (putAll (.map []) lstNone 0) lstTwo 2) lstThree 3) W3 := hT2.mark (d := D2) (by omega) hK2
        clear hT2
        gi_wp2_with (gi_at_call 30; refine (words_in _ txtFour _).mono ?_; rintro e w' ⟨rfl, rfl⟩)
        have bN3 := Boxed.new W3 9 (.string ⟨txtFour.toArray⟩)
        refine wpIn_rangeFunc_ownG rfl h1 (gf := 44) (lb := #[.pointer (some ⟨W3.heap.size, 0, none⟩)]) rfl trivial (enters_of Tryd.func44 (by kernel_rfl) rfl)
          (words_stops _ h2 W3.heap.size txtFour (by decide +kernel) lstFour wdFour _ (by simp) bN3.cell) keepsCell_t (keepsCell_b) (Below.refl _ _) (fun _ => rfl)
          (fun pre W => TS H w (59 + pre.length) [D2, D1, D0] (putAll (putAll (putAll (putAll (.map []) lstNone 0) lstTwo 2) lstThree 3) pre 4) W)
          (fun _ _ _ => False)
          (TS.own (by simp; omega) (fun d hd => by have := heap_lt (T3.2.1 d hd).2; simp; omega) _ _)
          (fun _ _ _ _ _ hs _ _ => hs)
          ((T3.alloc _).next 4)
          (fun x => { tmps := #[.map none, .pointer (some ⟨w.heap.size + 1, 0, none⟩), undef, undef, undef, .string ⟨x.1.toArray⟩, .map (some w.heap.size), .func (.func 44) #[] #[.pointer (some ⟨w.heap.size + 1 + 1, 0, none⟩)], undef, undef, undef, .func (.func 44) #[] #[.pointer (some ⟨W1.heap.size, 0, none⟩)], undef, undef, undef, .func (.func 44) #[] #[.pointer (some ⟨W2.heap.size, 0, none⟩)], undef, undef, undef, .func (.func 44) #[] #[.pointer (some ⟨W3.heap.size, 0, none⟩)], .string ⟨x.1.toArray⟩, undef, undef, undef], defers := [] }) ?assign3 ?body3 ?done3 ?stop3
        case assign3 =>
          intro l x W K hK
          gi_wp2
          exact hK
        case body3 =>
          rintro l pre x W hT hlt
          rw [lenFour] at hlt
          have hc := hT.1.1
          have hown := hT.1.2
          have hkey : keyOf Tryd.prog 9 (.string ⟨x.1.toArray⟩) = some (.string x.1) := WideMaps.keyOf_string_mk Tryd.underlying9 (s := ⟨x.1.toArray⟩) x.2
          gi_wp2_with (gi_at_mapUpdate; refine wpListIn_mapUpdate_own _ rfl _ _ _ 45 rfl 9 3 lawS Tryd.underlying45 _ w.heap.size (59 + pre.length) _ rfl hown (by unfold maxLen; omega) _ _ _ rfl rfl hkey _ [] (plainElem_int Tryd.underlying3 (by decide)) ?_; intro w1 hown1 hgrow1)
          exact ⟨KeepsFrom.of_grownBy hgrow1 (fun j e => by cases e; simp; omega), hT.keeps hgrow1 _, hT.storeW hown1 hgrow1⟩
        case stop3 =>
          rintro D c pre W _ _ h _
          exact h.elim
        case done3 =>
          rintro D3 ys W4 hD3 rfl hT3 hK3
          rw [lenFour] at hT3
          have hl4 := heap_lt hK3
          simp only [World.size_alloc] at hD3
          have hz4 : w.heap.size + 2 ≤ W4.heap.size := by omega
          have T4 : TS H w 61 (D3 :: [D2, D1, D0]) (putAll (putAll (putAll (putAll (.map []) lstNone 0) lstTwo 2) lstThree 3) lstFour 4) W4 := hT3.mark (d := D3) (by omega) hK3
          clear hT3
          have hc := T4.1.1
          have a30 := heap_lt (T3.2.1 D0 (by simp)).2
          have a31 := heap_lt (T3.2.1 D1 (by simp)).2
          have a20 := heap_lt (T2.2.1 D0 (by simp)).2
          gi_wp2
          have U4 := T4
          refine ⟨by simp, .inl ⟨_, _, rfl, run_takeDeferred (U4.2.1 D3 (by simp)).2, ?_⟩⟩
          have U3 := U4.take (by simp; omega)
          refine ⟨by simp, .inl ⟨_, _, rfl, run_takeDeferred (U3.2.1 D2 (by simp)).2, ?_⟩⟩
          have U2 := U3.take (by simp; omega)
          refine ⟨by simp, .inl ⟨_, _, rfl, run_takeDeferred (U2.2.1 D1 (by simp)).2, ?_⟩⟩
          have U1 := U2.take (by simp; omega)
          refine ⟨by simp, .inl ⟨_, _, rfl, run_takeDeferred (U1.2.1 D0 (by simp)).2, ?_⟩⟩
          have U0 := U1.take (by simp)
          exact ⟨_, results_tmp rfl _ _ _, rfl, U0.1.2, U0.2.2⟩
end Go.Proofs.YtjpndajbkemnlaaDoor
