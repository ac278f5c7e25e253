/-
  Where hyphens stand in a UETR, and what a place of it may be: the program's map and its closure.
-/
import Derived.Test.YtgdiejjjlchkpaaDoorRfN
import Derived.Test.YtgdiejjjlchkpaaDoorChR
import Derived.Maps.OwnSet
import Derived.Laws.EntriesVeiled
import Derived.Lib.Bytealg
namespace Go.Proofs.YtgdiejjjlchkpaaDoor
open Go.RowKit Go.Maps

/-- An entry with nothing in it, as a map's element. -/
def uE (v : Value) : Option (DataW Unit × List MemPlace) := match v with
  | .agg a => if a.size = 0 then some (.agg [], []) else none
  | _ => none
theorem uE_mk : uE (.agg #[]) = some (.agg [], []) := rfl
theorem uE_inv {v : Value} {d : DataW Unit} {ps : List MemPlace} (h : uE v = some (d, ps)) : v = .agg #[] := by
  unfold uE at h
  split at h
  · rename_i a
    split at h
    · rename_i e; rw [Array.size_eq_zero_iff.1 e]
    · cases h
  · cases h
/-- The map, as a datum. -/
def hyD : DataW Unit := ((((.map [] : DataW Unit).put (.int .i64 8) (.agg [])).put (.int .i64 13) (.agg [])).put (.int .i64 18) (.agg [])).put (.int .i64 23) (.agg [])
def isHy (n : Nat) : Bool := n == 8 || n == 13 || n == 18 || n == 23
theorem hyD_at (n : Nat) : has hyD (.int .i64 (n : Int)) = isHy n := by
  have i0 : IsMap (.map [] : DataW Unit) := isMap_empty
  have i1 := i0.put (.int .i64 8) (.agg [])
  have i2 := i1.put (.int .i64 13) (.agg [])
  have i3 := i2.put (.int .i64 18) (.agg [])
  have k1 : WideAt.IsKeyLit (.int .i64 8) := by trivial
  have k2 : WideAt.IsKeyLit (.int .i64 13) := by trivial
  have k3 : WideAt.IsKeyLit (.int .i64 18) := by trivial
  have k4 : WideAt.IsKeyLit (.int .i64 23) := by trivial
  have hne : ∀ a b : Int, a ≠ b → (Lit.int .i64 a) ≠ .int .i64 b := fun a b h e => by injection e with _ e; exact h e
  rw [hyD]
  by_cases h1 : n = 8
  · subst h1
    rw [show ((8 : Nat) : Int) = 8 from rfl, has_put_other (hne _ _ (by decide)), has_put_other (hne _ _ (by decide)), has_put_other (hne _ _ (by decide)), has_put_same i0 k1]; rfl
  · by_cases h2 : n = 13
    · subst h2
      rw [show ((13 : Nat) : Int) = 13 from rfl, has_put_other (hne _ _ (by decide)), has_put_other (hne _ _ (by decide)), has_put_same i1 k2]; rfl
    · by_cases h3 : n = 18
      · subst h3
        rw [show ((18 : Nat) : Int) = 18 from rfl, has_put_other (hne _ _ (by decide)), has_put_same i2 k3]; rfl
      · by_cases h4 : n = 23
        · subst h4
          rw [show ((23 : Nat) : Int) = 23 from rfl, has_put_same i3 k4]; rfl
        · rw [has_put_other (hne _ _ (by omega)), has_put_other (hne _ _ (by omega)), has_put_other (hne _ _ (by omega)), has_put_other (hne _ _ (by omega))]
          simp [isHy, h1, h2, h3, h4, has]
theorem hyLaw : Keyed Tryd.prog 3 := int_keyed Tryd.underlying3
theorem hyZero (w : World) : (zeroValue 42).run Tryd.prog w = .ok (.agg #[]) w := by kernel_rfl
theorem hyKey (n : Nat) (h : n < 1000) : keyOf Tryd.prog 3 (.int .i64 (n : Int)) = some (.int .i64 (n : Int)) := keyOf_int_mk Tryd.underlying3 (by
  have h1 : IntKind.i64.min = -9223372036854775808 := rfl
  have h2 : IntKind.i64.max = 9223372036854775807 := rfl
  simp [Lit.wf, h1, h2]; omega)
theorem run_makeMapY (w : World) : (Instr.makeMap 40 none).run Tryd.prog w = .ok (.map (some w.heap.size)) (w.alloc (.map #[] 0)) := by
  simp [Instr.makeMap, Result.andThen]
/-- The map lies in block M. -/
def HyAt (w : World) (M : Nat) : Prop := w.ownsMap Tryd.prog 3 uE M 4 hyD
theorem HyAt.below {w w' : World} {M : Nat} (h : HyAt w M) (hb : Below w.heap.size w w') : HyAt w' M := by
  have hl := World.ownsMap.lt h
  obtain ⟨es, clock, h1, r⟩ := h
  exact ⟨es, clock, (hb.block M hl).trans h1, r⟩
theorem HyAt.look {w : World} {M : Nat} (h : HyAt w M) (n : Nat) (hn : n < 1000) : (Instr.lookup 40 (.map (some M)) (.int .i64 (n : Int)) true).run Tryd.prog w = .ok (.tuple #[.agg #[], .bool (isHy n)]) w := by
  obtain ⟨v, ps, hrun, hv⟩ := World.ownsMap.look_ok h hyLaw Tryd.underlying40 (hyZero w) uE_mk (hyKey n hn)
  rw [hrun, uE_inv hv, hyD_at]

set_option maxRecDepth 100000 in
set_option maxHeartbeats 2000000 in
theorem hyphens_any (w : World) :
    Calls Tryd.prog 22 #[] w fun e W' => e = .returned (.map (some w.heap.size)) ∧ Below w.heap.size w W' ∧ HyAt W' w.heap.size := by
  have hm0 := World.ownsMap_made w Tryd.prog 3 uE
  obtain ⟨w1, r1, o1, g1⟩ := hm0.update (t := 40) hyLaw Tryd.underlying40 (by decide) (show keyOf Tryd.prog 3 (.int .i64 8) = some (.int .i64 8) from hyKey 8 (by omega)) uE_mk
  obtain ⟨w2, r2, o2, g2⟩ := o1.update (t := 40) hyLaw Tryd.underlying40 (by decide) (show keyOf Tryd.prog 3 (.int .i64 13) = some (.int .i64 13) from hyKey 13 (by omega)) uE_mk
  obtain ⟨w3, r3, o3, g3⟩ := o2.update (t := 40) hyLaw Tryd.underlying40 (by decide) (show keyOf Tryd.prog 3 (.int .i64 18) = some (.int .i64 18) from hyKey 18 (by omega)) uE_mk
  obtain ⟨w4, r4, o4, g4⟩ := o3.update (t := 40) hyLaw Tryd.underlying40 (by decide) (show keyOf Tryd.prog 3 (.int .i64 23) = some (.int .i64 23) from hyKey 23 (by omega)) uE_mk
  have s1 := Nat.le_trans (show w.heap.size ≤ (w.alloc (.map #[] 0)).heap.size by simp) g1.size
  have s2 := Nat.le_trans s1 g2.size
  have s3 := Nat.le_trans s2 g3.size
  have hb : Below w.heap.size w w4 := (((((Below.refl _ w).alloc (Nat.le_refl _) _).grown g1 (by simp) (fun k e => by cases e; exact Nat.le_refl _)).grown g2 s1 (fun k e => by cases e; exact Nat.le_refl _)).grown g3 s2 (fun k e => by cases e; exact Nat.le_refl _)).grown g4 s3 (fun k e => by cases e; exact Nat.le_refl _)
  have H := hid (And.intro hb (show HyAt w4 w.heap.size from o4))
  clear hb o1 o2 o3 o4 g1 g2 g3 g4 hm0 s1 s2 s3
  have hmm := run_makeMapY w
  go_enter Tryd.func22, Tryd.ntmps22
  go_wp2
  go_returns
  exact ⟨rfl, H.out⟩

set_option maxHeartbeats 2000000 in
theorem places_any (w : World) :
    Calls Tryd.prog 15 #[] w fun e W' => ∃ B M, e = .returned (.func (.func 23) #[] #[.pointer (some ⟨B, 0, none⟩)]) ∧ Below w.heap.size w W' ∧ B < W'.heap.size ∧ W'.cell? ⟨B, 0, none⟩ = some (.map (some M)) ∧ HyAt W' M := by
  have hmf : ∀ fn first cap w, (Instr.makeFunc fn first cap).run Tryd.prog w = .ok (.func fn first cap) w := fun _ _ _ _ => rfl
  have HC := hid (hyphens_any w)
  go_enter Tryd.func15, Tryd.ntmps15
  go_wp2_with fail
  refine HC.out.mono ?_
  rintro e w1 ⟨rfl, hb, hy⟩
  have HB := hid hb
  have HY := hid hy
  clear hb hy
  go_wp2
  go_returns
  exact ⟨w1.heap.size, w.heap.size, rfl, HB.out.alloc HB.out.size _, by simp, by simp, HY.out.below ((Below.refl _ _).alloc (Nat.le_refl _) _)⟩

set_option maxHeartbeats 400000 in
theorem litebyte_any (s : ByteArray) (c : Int) (w : World) :
    Calls Tryd.prog 31 #[.string s, .int .u8 c] w fun e w' => e = .returned (.int .i64 (Lib.indexByte s.data.toList c.toNat.toUInt8)) ∧ w' = w := by
  go_enter Tryd.func31, Tryd.ntmps31
  go_wp2
  rw [run_callFunc_extern Tryd.func41 (by kernel_rfl) (by kernel_rfl) (by kernel_rfl) (e := Extern.BytealgIndexByte.indexByte) (by kernel_rfl), Lib.run_indexByteString]
  simp only [Result.andThen]
  rw [Oper.upon_value]
  go_wp2
  go_ret
  exact ⟨rfl, rfl⟩

set_option maxHeartbeats 400000 in
theorem byteat_any (s : ByteArray) (c : Int) (w : World) :
    Calls Tryd.prog 24 #[.string s, .int .u8 c] w fun e w' => e = .returned (.int .i64 (Lib.indexByte s.data.toList c.toNat.toUInt8)) ∧ w' = w := by
  go_enter Tryd.func24, Tryd.ntmps24
  go_wp2_with (go_at_call 31; refine (litebyte_any _ _ _).mono ?_; rintro e w' ⟨rfl, hw'⟩; obtain rfl := hw'.symm)
  go_ret
  exact ⟨rfl, rfl⟩

/-- The letters that a place may have. -/
def plS (k : Nat) : ByteArray := if k = 14 then ⟨#[52]⟩ else if k = 19 then ⟨#[56, 57, 97, 98]⟩ else if isHy k then ⟨#[45]⟩ else ⟨#[48, 49, 50, 51, 52, 53, 54, 55, 56, 57, 97, 98, 99, 100, 101, 102]⟩
theorem pl_has (k : Nat) (c : UInt8) : decide (0 ≤ Lib.indexByte (plS k).data.toList c) = utAt k c := by
  have h1 : ∀ c : Fin 256, decide (0 ≤ Lib.indexByte [52] (UInt8.ofNat c.1)) = decide (UInt8.ofNat c.1 = 52) := by decide +kernel
  have h2 : ∀ c : Fin 256, decide (0 ≤ Lib.indexByte [56, 57, 97, 98] (UInt8.ofNat c.1)) = (decide (UInt8.ofNat c.1 = 56) || decide (UInt8.ofNat c.1 = 57) || decide (UInt8.ofNat c.1 = 97) || decide (UInt8.ofNat c.1 = 98)) := by decide +kernel
  have h3 : ∀ c : Fin 256, decide (0 ≤ Lib.indexByte [45] (UInt8.ofNat c.1)) = decide (UInt8.ofNat c.1 = 45) := by decide +kernel
  have h4 : ∀ c : Fin 256, decide (0 ≤ Lib.indexByte [48, 49, 50, 51, 52, 53, 54, 55, 56, 57, 97, 98, 99, 100, 101, 102] (UInt8.ofNat c.1)) = hxV (UInt8.ofNat c.1) := by decide +kernel
  have e : UInt8.ofNat c.toNat = c := by simp
  have g1 := h1 ⟨c.toNat, c.toNat_lt⟩
  have g2 := h2 ⟨c.toNat, c.toNat_lt⟩
  have g3 := h3 ⟨c.toNat, c.toNat_lt⟩
  have g4 := h4 ⟨c.toNat, c.toNat_lt⟩
  simp only [e] at g1 g2 g3 g4
  have hy : isHy k = true ↔ (k = 8 ∨ k = 13 ∨ k = 18 ∨ k = 23) := by simp [isHy, or_assoc]
  rw [plS, utAt]
  by_cases k14 : k = 14
  · subst k14; exact g1
  · by_cases k19 : k = 19
    · subst k19; exact g2
    · rw [if_neg k14, if_neg k19, if_neg k14, if_neg k19]
      by_cases kh : isHy k = true
      · rw [if_pos kh, if_pos (hy.1 kh)]; exact g3
      · rw [if_neg kh, if_neg (fun h => kh (hy.2 h))]; exact g4

set_option maxHeartbeats 2000000 in
theorem place_any (k : Nat) (hk : k < 1000) (c : UInt8) (B M : Nat) (w : World) (hc : w.cell? ⟨B, 0, none⟩ = some (.map (some M))) (hy : HyAt w M) :
    Calls Tryd.prog 23 #[.int .i64 k, .int .u8 c.toNat, .pointer (some ⟨B, 0, none⟩)] w fun e w' => e = .returned (.bool (utAt k c)) ∧ Below w.heap.size w w' := by
  have hl := hy.look k hk
  have HP := hid (pl_has k c)
  have HI : Hid (∀ (s : ByteArray) (w' : World), Calls Tryd.prog 24 #[.string s, .int .u8 c.toNat] w' fun e w2 => e = .returned (.int .i64 (Lib.indexByte s.data.toList c)) ∧ w2 = w') := hid (fun s w' => by
    have h := byteat_any s c.toNat w'
    rwa [show ((c.toNat : Int).toNat.toUInt8) = c by simp] at h)
  have hb0 : Below w.heap.size w (w.alloc (.cells #[] 42)) := (Below.refl _ _).alloc (Nat.le_refl _) _
  have HY := hid hy
  clear hy
  rw [plS] at HP
  by_cases k14 : k = 14
  · subst k14
    rw [if_pos rfl] at HP
    have HI := hid (HI.out ⟨#[52]⟩)
    generalize hbe : utAt 14 c = b at HP ⊢
    generalize hie : Lib.indexByte (ByteArray.mk #[52]).data.toList c = i at HP HI
    clear hbe hie hk
    rw [show isHy 14 = false from rfl, show ((14 : Nat) : Int) = 14 from rfl] at hl
    rw [show ((14 : Nat) : Int) = 14 from rfl]
    go_enter Tryd.func23, Tryd.ntmps23
    go_wp2_with fail
    refine (HI.out _).mono ?_
    rintro e w1 ⟨rfl, hw⟩
    obtain rfl := hw.symm
    go_wp2
    go_returns
    exact ⟨by rw [HP.out]; rfl, hb0⟩
  · by_cases k19 : k = 19
    · subst k19
      rw [if_neg (by decide), if_pos rfl] at HP
      have HI := hid (HI.out ⟨#[56, 57, 97, 98]⟩)
      generalize hbe : utAt 19 c = b at HP ⊢
      generalize hie : Lib.indexByte (ByteArray.mk #[56, 57, 97, 98]).data.toList c = i at HP HI
      clear hbe hie hk k14
      rw [show isHy 19 = false from rfl, show ((19 : Nat) : Int) = 19 from rfl] at hl
      rw [show ((19 : Nat) : Int) = 19 from rfl]
      go_enter Tryd.func23, Tryd.ntmps23
      go_wp2_with fail
      refine (HI.out _).mono ?_
      rintro e w1 ⟨rfl, hw⟩
      obtain rfl := hw.symm
      go_wp2
      go_returns
      exact ⟨by rw [HP.out]; rfl, hb0⟩
    · rw [if_neg k14, if_neg k19] at HP
      have q14 : ((k : Int) == 14) = false := by rw [beq_eq_false_iff_ne]; omega
      have q19 : ((k : Int) == 19) = false := by rw [beq_eq_false_iff_ne]; omega
      clear k14 k19 hk
      generalize hbe : utAt k c = b at HP ⊢
      clear hbe
      cases hh : isHy k
      all_goals
        rw [hh] at hl HP
        clear hh
      · rw [if_neg (by decide)] at HP
        have HI := hid (HI.out ⟨#[48, 49, 50, 51, 52, 53, 54, 55, 56, 57, 97, 98, 99, 100, 101, 102]⟩)
        generalize hie : Lib.indexByte (ByteArray.mk #[48, 49, 50, 51, 52, 53, 54, 55, 56, 57, 97, 98, 99, 100, 101, 102]).data.toList c = i at HP HI
        clear hie
        go_enter Tryd.func23, Tryd.ntmps23
        go_wp2_with fail
        refine (HI.out _).mono ?_
        rintro e w1 ⟨rfl, hw⟩
        obtain rfl := hw.symm
        go_wp2
        go_returns
        exact ⟨by rw [HP.out]; rfl, hb0⟩
      · rw [if_pos rfl] at HP
        have HI := hid (HI.out ⟨#[45]⟩)
        generalize hie : Lib.indexByte (ByteArray.mk #[45]).data.toList c = i at HP HI
        clear hie
        go_enter Tryd.func23, Tryd.ntmps23
        go_wp2_with fail
        refine (HI.out _).mono ?_
        rintro e w1 ⟨rfl, hw⟩
        obtain rfl := hw.symm
        go_wp2
        go_returns
        exact ⟨by rw [HP.out]; rfl, hb0⟩
end Go.Proofs.YtgdiejjjlchkpaaDoor
