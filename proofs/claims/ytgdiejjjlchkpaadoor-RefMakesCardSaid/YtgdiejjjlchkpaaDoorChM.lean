/-
  The program's sets of characters: the map of the sets; whether a character is one of a set.
-/
import Derived.Test.YtgdiejjjlchkpaaDoorChA
namespace Go.Proofs.YtgdiejjjlchkpaaDoor
open Go.RowKit Go.Shelf Go.Maps

def xT : List UInt8 := [97, 98, 99, 100, 101, 102, 103, 104, 105, 106, 107, 108, 109, 110, 111, 112, 113, 114, 115, 116, 117, 118, 119, 120, 121, 122, 65, 66, 67, 68, 69, 70, 71, 72, 73, 74, 75, 76, 77, 78, 79, 80, 81, 82, 83, 84, 85, 86, 87, 88, 89, 90, 48, 49, 50, 51, 52, 53, 54, 55, 56, 57, 32, 47, 45, 63, 58, 40, 41, 46, 44, 39, 43]
def yT : List UInt8 := [65, 66, 67, 68, 69, 70, 71, 72, 73, 74, 75, 76, 77, 78, 79, 80, 81, 82, 83, 84, 85, 86, 87, 88, 89, 90, 48, 49, 50, 51, 52, 53, 54, 55, 56, 57, 32, 47, 45, 63, 58, 40, 41, 46, 44, 39, 43, 61, 33, 34, 37, 38, 42, 60, 62, 59]
def zT : List UInt8 := xT ++ [61, 33, 34, 37, 38, 42, 60, 62, 59, 64, 35, 95, 123]
/-- The set's characters, as the program's map has them. -/
def alphT (n : Nat) : List UInt8 := if n = 88 then xT else if n = 89 then yT else if n = 90 then zT else []
def isSetV (n : Nat) : Bool := n == 88 || n == 89 || n == 90
def alphS (n : Nat) : ByteArray := ⟨(alphT n).toArray⟩
theorem alphS_list (n : Nat) : (alphS n).data.toList = alphT n := by simp [alphS]
theorem alph_four (n : Nat) : n = 88 ∨ n = 89 ∨ n = 90 ∨ (n ≠ 88 ∧ n ≠ 89 ∧ n ≠ 90) := by omega
theorem alphT_in (n c : Nat) (hc : c < 128) : decide (0 ≤ Lib.indexByte (alphT n) (UInt8.ofNat c)) = inV n (UInt8.ofNat c) := by
  have hx : ∀ k : Fin 128, decide (0 ≤ Lib.indexByte xT (UInt8.ofNat k.1)) = inX (UInt8.ofNat k.1) := by decide +kernel
  have hy : ∀ k : Fin 128, decide (0 ≤ Lib.indexByte yT (UInt8.ofNat k.1)) = inY (UInt8.ofNat k.1) := by decide +kernel
  have hz : ∀ k : Fin 128, decide (0 ≤ Lib.indexByte zT (UInt8.ofNat k.1)) = inZ (UInt8.ofNat k.1) := by decide +kernel
  rcases alph_four n with rfl | rfl | rfl | ⟨h1, h2, h3⟩
  · exact hx ⟨c, hc⟩
  · exact hy ⟨c, hc⟩
  · exact hz ⟨c, hc⟩
  · rw [alphT, inV, if_neg h1, if_neg h2, if_neg h3, if_neg h1, if_neg h2, if_neg h3]; rfl
theorem alph_asc (n : Nat) : Asc (alphS n) := by
  rw [Asc, alphS_list]
  have hx : ∀ b ∈ xT, b.toNat < 128 := by decide +kernel
  have hy : ∀ b ∈ yT, b.toNat < 128 := by decide +kernel
  have hz : ∀ b ∈ zT, b.toNat < 128 := by decide +kernel
  rcases alph_four n with rfl | rfl | rfl | ⟨h1, h2, h3⟩
  · exact hx
  · exact hy
  · exact hz
  · rw [alphT, if_neg h1, if_neg h2, if_neg h3]; intro b hb; cases hb
theorem alph_size (n : Nat) : (alphS n).size ≤ 100 := by
  have e : (alphS n).size = (alphT n).length := by simp [alphS, ByteArray.size]
  rw [e]
  have hx : xT.length ≤ 100 := by decide +kernel
  have hy : yT.length ≤ 100 := by decide +kernel
  have hz : zT.length ≤ 100 := by decide +kernel
  rcases alph_four n with rfl | rfl | rfl | ⟨h1, h2, h3⟩
  · exact hx
  · exact hy
  · exact hz
  · rw [alphT, if_neg h1, if_neg h2, if_neg h3]; exact Nat.zero_le _

/-- Is a rune one of the set? -/
def inR (n r : Nat) : Bool := decide (r < 128) && inV n (UInt8.ofNat r)

set_option maxHeartbeats 1000000 in
theorem contains_any (n r : Nat) (hv : Utf8.valid r = true) (w : World) :
    Calls Tryd.prog 40 #[.string (alphS n), .int .i32 (r : Int)] w fun e w' => e = .returned (.bool (inR n r)) ∧ Below w.heap.size w w' := by
  by_cases h : r < 128
  · refine (Tryd.strings_ContainsRune_ascii (alphS n) r w (by omega) (by omega)).mono ?_
    rintro e w' ⟨rfl, rfl⟩
    refine ⟨?_, Below.refl _ _⟩
    rw [alphS_list, Int.toNat_natCast, show r.toUInt8 = UInt8.ofNat r from rfl, alphT_in n r h, inR, decide_eq_true h, Bool.true_and]
  · have hr : inR n r = false := by rw [inR, decide_eq_false h, Bool.false_and]
    rw [hr]
    have hcall : Calls Tryd.prog 52 #[.string (alphS n), .int .i32 (r : Int)] w fun e w' => e = .returned (.int .i64 (-1)) ∧ Below w.heap.size w w' := by
      by_cases he : r = 65533
      · subst he
        exact indexRune_bad (alphS n) (alph_asc n) (by have := alph_size n; omega) w
      · exact indexRune_high (alphS n) (alph_asc n) (by have := alph_size n; omega) r hv (by omega) (by omega) w
    have HC := hid hcall
    clear hcall hr hv h
    generalize (r : Int) = R at HC ⊢
    generalize alphS n = S at HC ⊢
    go_enter Tryd.func40, Tryd.ntmps40
    go_wp2_with fail
    refine HC.out.mono ?_
    rintro e w1 ⟨rfl, hb⟩
    go_wp2
    go_returns
    exact ⟨rfl, hb⟩

set_option maxHeartbeats 1000000 in
theorem alphHas_any (n r : Nat) (hv : Utf8.valid r = true) (w : World) :
    Calls Tryd.prog 30 #[.agg #[.string (alphS n)], .int .i32 (r : Int)] w fun e w' => e = .returned (.bool (inR n r)) ∧ Below w.heap.size w w' := by
  have HC := hid (fun w' : World => contains_any n r hv w')
  clear hv
  generalize inR n r = B at HC ⊢
  generalize (r : Int) = R at HC ⊢
  generalize alphS n = S at HC ⊢
  go_enter Tryd.func30, Tryd.ntmps30
  have hb0 : Below w.heap.size w (w.alloc (.cells #[.string S] 51)) := (Below.refl _ w).alloc (Nat.le_refl _) _
  go_wp2_with fail
  refine (HC.out _).mono ?_
  rintro e w1 ⟨rfl, hb⟩
  go_wp2
  go_returns
  exact ⟨rfl, hb0.trans (hb.mono (by simp))⟩

/-- An alphabet, as a map's element. -/
def alphE (v : Value) : Option (DataW Unit × List MemPlace) := match v with
  | .agg a => match a.toList with | [.string s] => some (.lit (.string s.data.toList), []) | _ => none
  | _ => none
theorem alphE_mk (s : ByteArray) : alphE (.agg #[.string s]) = some (.lit (.string s.data.toList), []) := rfl
theorem alphE_inv {v : Value} {l : List UInt8} {ps : List MemPlace} (h : alphE v = some (.lit (.string l), ps)) : v = .agg #[.string ⟨l.toArray⟩] := by
  unfold alphE at h
  split at h
  · rename_i a
    split at h
    · rename_i s e
      obtain ⟨a⟩ := a
      simp only at e
      subst e
      simp only [Option.some.injEq, Prod.mk.injEq, DataW.lit.injEq, Lit.string.injEq] at h
      obtain ⟨rfl, _⟩ := h
      rfl
    · cases h
  · cases h
/-- The map, as a datum. -/
def alphD : DataW Unit := (((.map [] : DataW Unit).put (.int .u8 88) (.lit (.string xT))).put (.int .u8 89) (.lit (.string yT))).put (.int .u8 90) (.lit (.string zT))
theorem alphD_at (n : Nat) : alphD.atKey (.int .u8 (n : Int)) (.lit (.string [])) = .lit (.string (alphT n)) ∧ has alphD (.int .u8 (n : Int)) = isSetV n := by
  have i0 : IsMap (.map [] : DataW Unit) := isMap_empty
  have i1 := i0.put (.int .u8 88) (.lit (.string xT))
  have i2 := i1.put (.int .u8 89) (.lit (.string yT))
  have k8 : WideAt.IsKeyLit (.int .u8 88) := by trivial
  have k9 : WideAt.IsKeyLit (.int .u8 89) := by trivial
  have k0 : WideAt.IsKeyLit (.int .u8 90) := by trivial
  rw [alphD]
  have hne : ∀ a b : Int, a ≠ b → (Lit.int .u8 a) ≠ .int .u8 b := fun a b h e => by injection e with _ e; exact h e
  rcases alph_four n with rfl | rfl | rfl | ⟨h1, h2, h3⟩
  · rw [show ((88 : Nat) : Int) = 88 from rfl, atKey_put_other (hne _ _ (by decide)), atKey_put_other (hne _ _ (by decide)), atKey_put_same i0 k8, has_put_other (hne _ _ (by decide)), has_put_other (hne _ _ (by decide)), has_put_same i0 k8]
    exact ⟨rfl, rfl⟩
  · rw [show ((89 : Nat) : Int) = 89 from rfl, atKey_put_other (hne _ _ (by decide)), atKey_put_same i1 k9, has_put_other (hne _ _ (by decide)), has_put_same i1 k9]
    exact ⟨rfl, rfl⟩
  · rw [show ((90 : Nat) : Int) = 90 from rfl, atKey_put_same i2 k0, has_put_same i2 k0]
    exact ⟨rfl, rfl⟩
  · have n8 := hne (n : Int) 88 (by omega)
    have n9 := hne (n : Int) 89 (by omega)
    have n0 := hne (n : Int) 90 (by omega)
    rw [atKey_put_other n0, atKey_put_other n9, atKey_put_other n8, has_put_other n0, has_put_other n9, has_put_other n8, alphT, if_neg h1, if_neg h2, if_neg h3]
    have e : isSetV n = false := by simp [isSetV, h1, h2, h3]
    rw [e]
    exact ⟨rfl, rfl⟩

theorem alphLaw : Keyed Tryd.prog 5 := int_keyed Tryd.underlying5
theorem alphZero (w : World) : (zeroValue 51).run Tryd.prog w = .ok (.agg #[.string ⟨#[]⟩]) w := by kernel_rfl
theorem alph_lit (l : List UInt8) (a : Array UInt8) (h : a = l.toArray) : ByteArray.mk a = ⟨l.toArray⟩ := by rw [h]

theorem run_makeMapA (w : World) : (Instr.makeMap 53 none).run Tryd.prog w = .ok (.map (some w.heap.size)) (w.alloc (.map #[] 0)) := by
  simp [Instr.makeMap, Result.andThen]

set_option maxRecDepth 100000 in
set_option maxHeartbeats 2000000 in
theorem alphabets_any (w : World) :
    Calls Tryd.prog 29 #[] w fun e W' => e = .returned (.map (some w.heap.size)) ∧ Below w.heap.size w W' ∧
      (∀ n : Nat, n ≤ 255 → ∀ c : Bool, (Instr.lookup 53 (.map (some w.heap.size)) (.int .u8 (n : Int)) c).run Tryd.prog W' = .ok (if c then .tuple #[.agg #[.string (alphS n)], .bool (isSetV n)] else .agg #[.string (alphS n)]) W') := by
  have key : ∀ n : Nat, n ≤ 255 → keyOf Tryd.prog 5 (.int .u8 (n : Int)) = some (.int .u8 (n : Int)) := fun n hn => keyOf_int_mk Tryd.underlying5 (by
    have h1 : IntKind.u8.min = 0 := rfl
    have h2 : IntKind.u8.max = 255 := rfl
    simp [Lit.wf, h1, h2]; omega)
  have hm0 := World.ownsMap_made w Tryd.prog 5 alphE
  obtain ⟨w1, r1, o1, g1⟩ := hm0.update (t := 53) alphLaw Tryd.underlying53 (by decide) (show keyOf Tryd.prog 5 (.int .u8 88) = some (.int .u8 88) from key 88 (by omega)) (alphE_mk ⟨xT.toArray⟩)
  obtain ⟨w2, r2, o2, g2⟩ := o1.update (t := 53) alphLaw Tryd.underlying53 (by decide) (show keyOf Tryd.prog 5 (.int .u8 89) = some (.int .u8 89) from key 89 (by omega)) (alphE_mk ⟨yT.toArray⟩)
  obtain ⟨w3, r3, o3, g3⟩ := o2.update (t := 53) alphLaw Tryd.underlying53 (by decide) (show keyOf Tryd.prog 5 (.int .u8 90) = some (.int .u8 90) from key 90 (by omega)) (alphE_mk ⟨zT.toArray⟩)
  have hb : Below w.heap.size w w3 := ((((Below.refl _ w).alloc (Nat.le_refl _) _).grown g1 (by simp) (fun k e => by cases e; exact Nat.le_refl _)).grown g2 (Nat.le_trans (by simp) g1.size) (fun k e => by cases e; exact Nat.le_refl _)).grown g3 (Nat.le_trans (by simp) (Nat.le_trans g1.size g2.size)) (fun k e => by cases e; exact Nat.le_refl _)
  have hlook : ∀ n : Nat, n ≤ 255 → ∀ c : Bool, (Instr.lookup 53 (.map (some w.heap.size)) (.int .u8 (n : Int)) c).run Tryd.prog w3 = .ok (if c then .tuple #[.agg #[.string (alphS n)], .bool (isSetV n)] else .agg #[.string (alphS n)]) w3 := by
    intro n hn c
    have ho : w3.ownsMap Tryd.prog 5 alphE w.heap.size 3 alphD := o3
    obtain ⟨hat, hhas⟩ := alphD_at n
    cases c
    · obtain ⟨v, ps, hrun, hv⟩ := ho.lookup alphLaw Tryd.underlying53 (alphZero w3) (alphE_mk ⟨#[]⟩) (key n hn)
      rw [show (⟨#[]⟩ : ByteArray).data.toList = [] from rfl, hat] at hv
      rw [hrun, alphE_inv hv]
      rfl
    · obtain ⟨v, ps, hrun, hv⟩ := ho.look_ok alphLaw Tryd.underlying53 (alphZero w3) (alphE_mk ⟨#[]⟩) (key n hn)
      rw [show (⟨#[]⟩ : ByteArray).data.toList = [] from rfl, hat] at hv
      rw [hrun, alphE_inv hv, hhas]
      rfl
  have H := hid (And.intro hb hlook)
  clear hb hlook o1 o2 o3 g1 g2 g3 hm0 key
  have hmm := run_makeMapA w
  go_enter Tryd.func29, Tryd.ntmps29
  rw [alph_lit xT _ ?lx]
  case lx => rfl
  generalize (⟨xT.toArray⟩ : ByteArray) = X at r1 ⊢
  rw [alph_lit yT _ ?ly]
  case ly => rfl
  generalize (⟨yT.toArray⟩ : ByteArray) = Y at r2 ⊢
  rw [alph_lit zT _ ?lz]
  case lz => rfl
  generalize (⟨zT.toArray⟩ : ByteArray) = Z at r3 ⊢
  go_wp2
  go_returns
  exact ⟨rfl, H.out⟩
end Go.Proofs.YtgdiejjjlchkpaaDoor
