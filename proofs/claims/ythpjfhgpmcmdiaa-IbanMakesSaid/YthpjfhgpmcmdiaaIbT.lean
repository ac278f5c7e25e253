/-
  Account numbers: the table of lengths, a map that each call makes anew; Length.
-/
import Derived.Test.YthpjfhgpmcmdiaaIbN
import Derived.Test.YthpjfhgpmcmdiaaDecA
import Derived.OwnWalk
import Derived.Handy
import Derived.Lib.Walk
import Derived.BigCall
import Derived.Maps.OwnSet
import Derived.Maps.OwnOps
import Derived.Maps.AppendAt
import Derived.StringKeys
namespace Go.Proofs.Ythpjfhgpmcmdiaa
open Go.RowKit Go.Maps

/-- A table is put in. -/
def putTab {H : Type} (D : DataW H) (xs : List (List UInt8 × Nat)) : DataW H := xs.foldl (fun D p => D.put (.string p.1) (.lit (.int .i64 (p.2 : Nat)))) D
theorem putTab_cons {H : Type} (D : DataW H) (p : List UInt8 × Nat) (xs : List (List UInt8 × Nat)) : putTab D (p :: xs) = putTab (D.put (.string p.1) (.lit (.int .i64 (p.2 : Nat)))) xs := rfl

theorem atKey_putTab {H : Type} (l : List UInt8) (z : DataW H) (xs : List (List UInt8 × Nat)) : ∀ {D : DataW H}, IsMap D → (xs.map (·.1)).Nodup →
    (putTab D xs).atKey (.string l) z = match xs.find? (fun p => p.1 == l) with | some p => .lit (.int .i64 (p.2 : Nat)) | none => D.atKey (.string l) z := by
  induction xs with
  | nil => exact fun _ _ => rfl
  | cons x xs ih =>
    intro D hD hn
    rw [List.map_cons, List.nodup_cons] at hn
    rw [putTab_cons, ih (hD.put _ _) hn.2]
    by_cases hx : x.1 = l
    · have e1 : (x :: xs).find? (fun p => p.1 == l) = some x := by simp [hx]
      have e2 : xs.find? (fun p => p.1 == l) = none := by
        rw [List.find?_eq_none]
        intro p hp he
        exact hn.1 (List.mem_map.2 ⟨p, hp, by rw [hx]; simpa using he⟩)
      rw [e1, e2]
      subst hx
      dsimp only
      rw [atKey_put_same hD (by trivial)]
    · have e1 : (x :: xs).find? (fun p => p.1 == l) = xs.find? (fun p => p.1 == l) := by simp [hx]
      rw [e1]
      split
      · rfl
      · rw [atKey_put_other (fun e => hx (by cases e; rfl))]
theorem has_putTab {H : Type} (l : List UInt8) (xs : List (List UInt8 × Nat)) : ∀ {D : DataW H}, IsMap D →
    has (putTab D xs) (.string l) = ((xs.find? (fun p => p.1 == l)).isSome || has D (.string l)) := by
  induction xs with
  | nil => exact fun _ => rfl
  | cons x xs ih =>
    intro D hD
    rw [putTab_cons, ih (hD.put _ _)]
    by_cases hx : x.1 = l
    · subst hx
      rw [has_put_same hD (by trivial)]
      simp
    · rw [has_put_other (fun e => hx (by cases e; rfl))]
      have e1 : (x :: xs).find? (fun p => p.1 == l) = xs.find? (fun p => p.1 == l) := by simp [hx]
      rw [e1]
theorem ibTab_at (H : Type) (l : List UInt8) : (putTab (.map [] : DataW H) ibTab).atKey (.string l) (.lit (.int .i64 0)) = .lit (.int .i64 ((lenV l).1 : Nat)) := by
  rw [atKey_putTab _ _ _ isMap_empty ibTab_once, lenV]
  split
  · rename_i h; rw [h]
  · rename_i h; rw [h]; rfl
theorem ibTab_has (H : Type) (l : List UInt8) : has (putTab (.map [] : DataW H) ibTab) (.string l) = (lenV l).2 := by
  rw [has_putTab _ _ isMap_empty, lenV, show has (.map [] : DataW H) (.string l) = false from rfl, Bool.or_false]
  cases ibTab.find? (fun p => p.1 == l) <;> rfl

theorem wf_small (n : Nat) (h : n ≤ 1000) : (Lit.int .i64 (n : Nat)).wf = true := by
  have h1 : IntKind.i64.min = -9223372036854775808 := by decide
  have h2 : IntKind.i64.max = 9223372036854775807 := by decide
  rw [Lit.wf, h1, h2, Bool.and_eq_true]
  exact ⟨decide_eq_true (by omega), decide_eq_true (by omega)⟩

/-- An entry of a literal. -/
theorem wpList_insert_own {H : Type} {P : Program} (w : World) {ops : Array Oper} {rest : List Oper} {o : Oper} {a : Act} {Q : Exit → Act → World → Prop}
    (hg : o.guard = none) (m x v : Operand) (t : TypeId) (hop : o.op = Op.insert t m x v)
    (k e : TypeId) (K : Keyed P k) (ht : P.underlying t = some (.map k e)) (R : Value → Option (DataW H × List MemPlace)) (b n : Nat) (D : DataW H)
    (hm : a.eval m = .map (some b)) (hown : w.ownsMap P k R b n D) (hn : n < maxLen) (key val : Value) (kl : Lit) (hx : a.eval x = key) (hv : a.eval v = val) (hkey : keyOf P k key = some kl)
    (d : DataW H) (ps : List MemPlace) (hval : R val = some (d, ps))
    (hK : ∀ w', w'.ownsMap P k R b (n + 1) (D.put kl d) → w.grownBy w' (some b) → wpList P ops Q rest (a.put o.dst undef) w') :
    wpList P ops Q (o :: rest) a w := by
  refine wpList_plain hg fun K' hK' => ?_
  obtain ⟨w', hrun, r1, r2⟩ := hown.update K ht hn hkey hval
  unfold Oper.wp
  simp [execOp, hop, hm, hx, hv, hrun, Result.andThen]
  exact hK' _ _ (hK w' r1 r2)

/-- The entry of a country, as an operation. -/
def insOp (t : TypeId) (m : Operand) (p : List UInt8 × Nat) : Op := .insert t m (.const (.string ⟨p.1.toArray⟩)) (.const (.int .i64 (p.2 : Nat)))

/-- All entries of a literal. -/
theorem wpList_inserts {H : Type} {P : Program} {ops : Array Oper} {tail : List Oper} {a : Act} {Q : Exit → Act → World → Prop} (m : Operand) (t k e : TypeId) (K : Keyed P k)
    (ht : P.underlying t = some (.map k e)) (hk : P.underlying k = some .string) (he : P.underlying e = some (.int .i64)) (b : Nat) (hm : a.eval m = .map (some b)) :
    ∀ (tab : List (List UInt8 × Nat)) (os : List Oper) (n : Nat) (D : DataW H) (w : World), os.map (fun o => (o.guard, o.dst, o.op)) = tab.map (fun p => (none, none, insOp t m p)) →
      (∀ p ∈ tab, p.1.length ≤ 1000 ∧ p.2 ≤ 1000) → n + tab.length ≤ 1000000 → w.ownsMap P k (plainElem (H := H) P e) b n D →
      (∀ w', w'.ownsMap P k (plainElem (H := H) P e) b (n + tab.length) (putTab D tab) → w.grownBy w' (some b) → wpList P ops Q tail a w') → wpList P ops Q (os ++ tail) a w := by
  intro tab
  induction tab with
  | nil =>
    intro os n D w ho _ _ hown h
    obtain rfl : os = [] := by simpa using ho
    exact h w hown ⟨rfl, rfl, rfl, Nat.le_refl _, fun _ _ _ => rfl⟩
  | cons p tab ih =>
    intro os n D w ho hs hl hown h
    cases os with
    | nil => simp at ho
    | cons o os =>
      simp only [List.map_cons, List.cons.injEq, Prod.mk.injEq] at ho
      obtain ⟨⟨hg, hd, hop⟩, ho⟩ := ho
      obtain ⟨s1, s2⟩ := hs p List.mem_cons_self
      have hl' : n + (tab.length + 1) ≤ 1000000 := hl
      refine wpList_insert_own w hg _ _ _ t hop k e K ht _ b n D hm hown (by unfold maxLen; omega) _ _ (.string p.1) rfl rfl
        (WideMaps.keyOf_string_mk hk (s := ⟨p.1.toArray⟩) (by simp [ByteArray.size]; unfold maxLen; omega)) _ [] (plainElem_int he (wf_small _ s2)) ?_
      intro w1 h1 g1
      have ea : a.put o.dst undef = a := by rw [hd]; rfl
      rw [ea]
      refine ih os (n + 1) _ w1 ho (fun q hq => hs q (List.mem_cons_of_mem _ hq)) (by omega) h1 fun w2 h2 g2 => ?_
      refine h w2 ?_ (g1.trans g2)
      rw [putTab_cons, List.length_cons, show n + (tab.length + 1) = n + 1 + tab.length by omega]
      exact h2

theorem wpList_inserts_at {H : Type} {P : Program} {ops : Array Oper} {a : Act} {Q : Exit → Act → World → Prop} (w : World) (tab : List (List UInt8 × Nat)) (m : Operand) (t k e : TypeId) (K : Keyed P k)
    (ht : P.underlying t = some (.map k e)) (hk : P.underlying k = some .string) (he : P.underlying e = some (.int .i64)) (b : Nat) (hm : a.eval m = .map (some b)) (l : List Oper)
    (hl : (l.take tab.length).map (fun o => (o.guard, o.dst, o.op)) = tab.map (fun p => (none, none, insOp t m p))) (hs : ∀ p ∈ tab, p.1.length ≤ 1000 ∧ p.2 ≤ 1000) (hz : tab.length ≤ 1000000)
    (hown : w.ownsMap P k (plainElem (H := H) P e) b 0 (.map []))
    (h : ∀ w', w'.ownsMap P k (plainElem (H := H) P e) b tab.length (putTab (.map []) tab) → w.grownBy w' (some b) → wpList P ops Q (l.drop tab.length) a w') : wpList P ops Q l a w := by
  rw [← List.take_append_drop tab.length l]
  exact wpList_inserts m t k e K ht hk he b hm tab _ 0 _ w hl hs (by omega) hown (fun w' h1 h2 => h w' (by rw [Nat.zero_add] at h1; exact h1) h2)

theorem lawIb : Keyed Try.prog 9 := string_keyed Try.underlying9
theorem zeroIb (w : World) : (zeroValue 3).run Try.prog w = .ok (.int .i64 0) w := by kernel_rfl

set_option maxRecDepth 100000 in
set_option maxHeartbeats 4000000 in
theorem lengths_any (H : Type) (w : World) :
    Calls Try.prog 17 #[] w fun e w' => e = .returned (.map (some w.heap.size)) ∧ w'.ownsMap Try.prog 9 (plainElem (H := H) Try.prog 3) w.heap.size 52 (putTab (.map []) ibTab) ∧ Below w.heap.size w w' := by
  have hmm := @run_makeMap Try.prog
  have hm0 := World.ownsMap_made w Try.prog 9 (plainElem (H := H) Try.prog 3)
  have b0 : Below w.heap.size w (w.alloc (.map #[] 0)) := (Below.refl _ w).alloc (Nat.le_refl _) _
  go_enter Try.func17, Try.ntmps17
  go_wp2_with (refine wpList_inserts_at (H := H) _ ibTab (.tmp 1) 38 9 3 lawIb Try.underlying38 Try.underlying9 Try.underlying3 w.heap.size rfl _ ?map (fun p hp => by have := ibTab_two p hp; omega) (by rw [ibTab_len]; decide) hm0 ?_; (case map => kernel_rfl); rw [ibTab_len]; intro w1 hown1 hgrow1; dsimp only [List.drop])
  go_returns
  exact ⟨rfl, hown1, b0.grown hgrow1 (by simp) (fun j e => by cases e; exact Nat.le_refl _)⟩

set_option maxRecDepth 100000 in
set_option maxHeartbeats 1000000 in
theorem iblength_any (s : ByteArray) (w : World) (hs : s.size ≤ 9223372036854775807) :
    Calls Try.prog 9 #[.string s] w fun e w' => e = .returned (.tuple #[.int .i64 ((lenV s.data.toList).1 : Nat), .bool (lenV s.data.toList).2]) ∧ Below w.heap.size w w' := by
  have hkey := hid (WideMaps.keyOf_string_mk (P := Try.prog) Try.underlying9 hs)
  go_enter Try.func9, Try.ntmps9
  go_wp2_with (first
    | (go_at_call 17; with_reducible refine (lengths_any Unit _).mono ?_; rintro e w' ⟨rfl, hown, hb⟩)
    | (at_lookup; refine wpList_lookup_own_ok_int _ rfl _ _ 38 rfl 9 3 .i64 lawIb Try.underlying38 Try.underlying3 (zeroIb _) w.heap.size 52 _ rfl hown _ _ rfl hkey.out ?_; intro c hat0 hwc; have hat := hid hat0; clear hat0)
    | go_in)
  go_returns
  have hat := hat.out
  rw [ibTab_at] at hat
  rw [ibTab_has]
  obtain rfl : ((lenV s.data.toList).1 : Int) = c := by injection hat with h; injection h
  exact ⟨rfl, hb⟩
end Go.Proofs.Ythpjfhgpmcmdiaa
