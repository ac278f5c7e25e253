/-
  The program's contracts for references: Make.
-/
import Derived.Test.YtgdiejjjlchkpaaDoorRfP
import Derived.Lib.Join
import Derived.StillTailTactics
namespace Go.Proofs.YtgdiejjjlchkpaaDoor
open Go.RowKit Go.Shelf

theorem region_tail_drew {P : Program} {id : Nat} {Q : Exit → Act → World → Prop} {a : Act} {w : World} {l : List Oper} (n : Nat) (hm : P.follows .mixedOrders = true) (hB : Region.lexTailB .any l.toArray n = true)
    (h : wpStill P l.toArray w.drew (fun a' => wpList P l.toArray Q (l.drop n) a' w.drew) (l.take n) a) : (Code.region id l.toArray true).wp P Q a w :=
  wp_region_still_tail n hm hB h

theorem rf_str_eq {a b : ByteArray} (h : a.data.toList = b.data.toList) : a = b := by
  cases a; cases b; simp only [ByteArray.mk.injEq]; exact Array.toList_inj.1 h
theorem rep_48 : ∀ k : Nat, Lib.repeatL [48] k = List.replicate k (48 : UInt8)
  | 0 => rfl
  | k + 1 => by rw [Lib.repeatL, rep_48 k, List.replicate_succ]; rfl
/-- A number's sixteen digits, as a text. -/
def hxS (n : Nat) : ByteArray := ⟨(hxs n).toArray⟩
set_option maxHeartbeats 1000000 in
theorem digitsOf_any (n : Nat) (hn : n < 18446744073709551616) (w : World) (hT : RTab w) :
    Calls Tryd.prog 16 #[.int .u64 n] w fun e w' => e = .returned (.string (hxS n)) ∧ Below w.heap.size w w' := by
  have HF := hid (fu_16 n hn w hT.1)
  clear hT hn
  go_enter Tryd.func16, Tryd.ntmps16
  go_wp2_with fail
  refine HF.out.mono ?_
  rintro e w1 ⟨d, h1, h2, h3, rfl, hb⟩
  have HR := hid (fun w' => Tryd.strings_Repeat ⟨#[48]⟩ (16 - d) w' (by omega) (by show 1 * _ ≤ _; omega))
  have HE := hid (show (⟨(Lib.repeatL (⟨#[48]⟩ : ByteArray).data.toList (16 - d)).toArray⟩ : ByteArray) ++ ⟨(hexD n d).toArray⟩ = hxS n by
    apply rf_str_eq
    rw [hxS, ← hex_pad n d h2 h3]
    simp [rep_48])
  have zr : (⟨(Lib.repeatL (⟨#[48]⟩ : ByteArray).data.toList (16 - d)).toArray⟩ : ByteArray).size = 16 - d := by
    show (Lib.repeatL [48] (16 - d)).toArray.size = _
    rw [rep_48]; simp
  have zd : (⟨(hexD n d).toArray⟩ : ByteArray).size = d := by
    show (hexD n d).toArray.size = _
    simp [hexD_len]
  have hsub : IntKind.i64.wrap (16 - (d : Int)) = ((16 - d : Nat) : Int) := by rw [wrap_id _ (by omega) (by omega)]; omega
  generalize (⟨(Lib.repeatL (⟨#[48]⟩ : ByteArray).data.toList (16 - d)).toArray⟩ : ByteArray) = R at *
  generalize (⟨(hexD n d).toArray⟩ : ByteArray) = D at *
  clear h3
  go_wp2_with fail
  refine (HR.out _).mono ?_
  rintro e w2 ⟨rfl, hb2⟩
  go_wp2
  go_returns
  exact ⟨by rw [← HE.out]; rfl, hb.trans (hb2.mono hb.size)⟩

set_option maxHeartbeats 1000000 in
theorem together_any (B c : Nat) (xs : List ByteArray) (w : World) (hcells : ∀ (j : Nat) x, xs[j]? = some x → w.cell? ⟨B, 0 + j, none⟩ = some (.string x)) (hB : B < w.heap.size) (h5 : xs.length ≤ 100) (hc : xs.length ≤ c)
    (hlen : (Lib.join (xs.map (·.data.toList)) [45]).length ≤ 1000) :
    Calls Tryd.prog 17 #[.slice (some ⟨B, 0, none⟩) xs.length c] w fun e w' => e = .returned (.string ⟨(Lib.join (xs.map (·.data.toList)) [45]).toArray⟩) ∧ Below w.heap.size w w' := by
  have HJ := hid (Tryd.strings_Join B 0 c xs ⟨#[45]⟩ w hcells hB (by omega) hc (by show (Lib.join _ [45]).length ≤ _; omega))
  rw [show (⟨#[45]⟩ : ByteArray).data.toList = [45] from rfl] at HJ
  clear hcells
  go_enter Tryd.func17, Tryd.ntmps17
  go_wp2_with fail
  refine HJ.out.mono ?_
  rintro e w1 ⟨rfl, hb⟩
  go_wp2
  go_returns
  exact ⟨rfl, hb⟩

/-- The groups of a UETR. -/
def grps (S : ByteArray) : List ByteArray := [S.extract 0 8, S.extract 8 12, ⟨#[52]⟩ ++ S.extract 12 15, ⟨#[56]⟩ ++ S.extract 15 16 ++ ⟨#[48, 48]⟩, ⟨#[48, 48, 48, 48, 48, 48, 48, 48, 48, 48, 48, 48]⟩]
theorem grps_mk (n : Nat) : Lib.join ((grps (hxS n)).map (·.data.toList)) [45] = mkL n := by
  have e : (hxS n).data.toList = hxs n := by simp [hxS]
  simp only [grps, List.map_cons, List.map_nil, ByteArray.data_append, Array.toList_append, ext_lst, e]
  rfl

set_option maxRecDepth 100000 in
set_option maxHeartbeats 4000000 in
theorem refmake_any (n : Nat) (hn : n < 18446744073709551616) (w : World) (hT : RTab w) :
    Calls Tryd.prog 12 #[.int .u64 n] w fun e w' => e = .returned (.string ⟨(mkL n).toArray⟩) ∧ Below w.heap.size w w' := by
  have HD := hid (digitsOf_any n hn w hT)
  have HG := hid (grps_mk n)
  have zs : (hxS n).size = 16 := rfl
  clear hT hn
  generalize hxS n = S at *
  have z1 : (S.extract 12 15).size = 3 := by rw [ByteArray.size_extract, zs]; rfl
  have z2 : (S.extract 15 16).size = 1 := by rw [ByteArray.size_extract, zs]; rfl
  have z3 : (⟨#[52]⟩ : ByteArray).size = 1 := rfl
  have z4 : (⟨#[56]⟩ : ByteArray).size = 1 := rfl
  have z5 : (⟨#[56]⟩ ++ S.extract 15 16 : ByteArray).size = 2 := by rw [ByteArray.size_append, z4, z2]
  have z6 : (⟨#[48, 48]⟩ : ByteArray).size = 2 := rfl
  go_enter Tryd.func12, Tryd.ntmps12
  go_wp2_with fail
  refine HD.out.mono ?_
  rintro e w1 ⟨rfl, hb⟩
  have HB := hid hb
  clear hb
  go_upto_region 2 with fail
  refine region_tail_drew 11 (by kernel_rfl) (by kernel_rfl) ?_
  simp only [List.take_succ_cons, List.take_zero, List.drop_succ_cons, List.drop_zero]
  repeat still_step
  try refine wpStill_nil ?_
  go_wp2_with fail
  have HT := fun w' hc hB => together_any w1.heap.size 5 (grps S) w' hc hB (by show 5 ≤ 100; omega) (Nat.le_refl 5) (by rw [HG.out, mk_len]; omega)
  rw [HG.out] at HT
  refine (HT _ ?_ ?_).mono ?_
  · intro j x hj
    have hj5 : j < 5 := (List.getElem?_eq_some_iff.1 hj).1
    rw [Nat.zero_add]
    match j, hj5, hj with
    | 0, _, hj | 1, _, hj | 2, _, hj | 3, _, hj | 4, _, hj =>
      obtain rfl := Option.some.inj hj
      simp [go_sem]
  · simp [go_sem]
  rintro e w2 ⟨rfl, hb2⟩
  go_wp2
  go_returns
  have hs := HB.out.size
  refine ⟨rfl, HB.out.trans (Below.trans ?_ (hb2.mono ?_))⟩
  · exact ((Below.refl _ _).alloc hs _).drew
  · simp [go_sem]; omega
end Go.Proofs.YtgdiejjjlchkpaaDoor
