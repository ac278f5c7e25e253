/-
  The document's own answer for folded lines: Fold.
-/
import Derived.Test.YthmfojkklianlaaChB
import Derived.Lib.Slices
import Derived.Deep.DeepCutAuto
import Derived.Maps.AppendAt
namespace Go.Proofs.Ythmfojkklianlaa
open Go.RowKit

/-- Lines so far, how many bytes are kept, whether all were, the line that is not full. -/
structure FSt where
  out : List (List UInt8)
  kept : Nat
  same : Bool
  line : List UInt8
/-- The byte that is put for a byte. -/
def fput (line : List UInt8) (c : UInt8) : UInt8 := if line = [] ∧ (c = 58 ∨ c = 45) then 46 else c
def fsame (s : List UInt8) (i : Nat) (c : UInt8) (same : Bool) : Bool := same && (decide (i < s.length) && (s.getD i 0 == c))
def fstep (s : List UInt8) (W i : Nat) (c : UInt8) (st : FSt) : FSt :=
  let l := st.line ++ [fput st.line c]
  let m := fsame s i (fput st.line c) st.same
  { out := if l.length = W then st.out ++ [l] else st.out, kept := if m then st.kept + 1 else st.kept, same := m, line := if l.length = W then [] else l }
def frun (s : List UInt8) (W L : Nat) : Nat → List UInt8 → FSt → FSt
  | _, [], st => st
  | i, c :: r, st => if st.out.length < L then frun s W L (i + 1) r (fstep s W i c st) else st
def finit : FSt := { out := [], kept := 0, same := true, line := [] }
def fend (s : List UInt8) (W L : Nat) : FSt := frun s W L 0 (subL s) finit
/-- The lines, and how many bytes are kept. -/
def foldV (s : List UInt8) (W L : Nat) : List (List UInt8) := let st := fend s W L; if st.line = [] then st.out else st.out ++ [st.line]
def keptV (s : List UInt8) (W L : Nat) : Nat := (fend s W L).kept

theorem mk_toList (a : List UInt8) : (⟨a.toArray⟩ : ByteArray).toList = a := by rw [ByteArray.toList_eq]
theorem one_toList (c : UInt8) : (⟨#[c]⟩ : ByteArray).toList = [c] := mk_toList [c]
theorem one_yes {c d : UInt8} (h : c = d) : ([c] == [d]) = true := by rw [h]; exact beq_self_eq_true _
theorem one_no {c d : UInt8} (h : ¬ c = d) : ([c] == [d]) = false := by rw [beq_eq_false_iff_ne]; simpa using h
theorem ext_one (s : ByteArray) (i : Nat) (h : i < s.size) : s.extract i (i + 1) = ⟨#[s[i]]⟩ := ib_str_eq (by
  rw [ext_lst, take_snoc s i h, List.drop_append_of_le_length (by simp; omega), List.drop_of_length_le (by simp; omega)]
  rfl)
theorem drop_cons (t : ByteArray) (k : Nat) (h : k < t.size) : t.data.toList.drop k = t[k] :: t.data.toList.drop (k + 1) := by
  rw [List.drop_eq_getElem_cons (by simpa using h)]
  rfl

set_option maxRecDepth 100000 in
set_option maxHeartbeats 8000000 in
theorem reffold_any (s : ByteArray) (W L : Nat) (hW : 1 ≤ W) (hW2 : W ≤ 9223372036854775807) (hL : 1 ≤ L) (hL2 : L ≤ 9223372036854775807) (w : World) (hs : s.size ≤ 2000) :
    Calls Try.prog 12 #[.string s, .int .i64 W, .int .i64 L] w fun e w' => ∃ v, e = .returned (.tuple #[v, .int .i64 ((keptV s.data.toList W L : Nat) : Int)]) ∧ w'.ownsRow w.heap.size 9 1 v (foldV s.data.toList W L).length (strVals (foldV s.data.toList W L)) ∧ Below w.heap.size w w' := by
  obtain ⟨i0, hi, hz0, hz1, hz2⟩ := info_parts str_info
  have hl : s.data.toList.length = s.size := by simp
  have HS := hid (fun w' => refsubst_any s w' hs)
  have hE := hid (show fend s.data.toList W L = frun s.data.toList W L 0 (subL s.data.toList) finit from rfl)
  have hF := hid (show foldV s.data.toList W L = if (fend s.data.toList W L).line = [] then (fend s.data.toList W L).out else (fend s.data.toList W L).out ++ [(fend s.data.toList W L).line] from rfl)
  have hK := hid (show keptV s.data.toList W L = (fend s.data.toList W L).kept from rfl)
  have htz : (subL s.data.toList).length ≤ 2000 := by
    have := charsL_len _ s.data.toList (Nat.le_refl _)
    rw [subL, List.length_map]; omega
  generalize foldV s.data.toList W L = fv at *
  generalize keptV s.data.toList W L = kv at *
  generalize fend s.data.toList W L = fe at *
  obtain ⟨T, hT⟩ : ∃ T : ByteArray, T = ⟨(subL s.data.toList).toArray⟩ := ⟨_, rfl⟩
  have hTl : T.data.toList = subL s.data.toList := by rw [hT]
  have hTz : T.size ≤ 2000 := by rw [hT, mk_size]; exact htz
  rw [← hT] at HS
  rw [← hTl] at hE
  clear hT hTl htz
  go_enter Try.func12, Try.ntmps12
  go_wp2_with fail
  refine (HS.out _).mono ?_
  rintro e w1 ⟨rfl, hb⟩
  go_wp2
  go_loopw [9, 10, 11, 12, 13] (fun v kp sm ln i wr => ∃ (k : Nat) (st : FSt), k ≤ T.size ∧ i = .int .i64 k ∧ fe = frun s.data.toList W L k (T.data.toList.drop k) st ∧ st.out.length ≤ k ∧ st.kept ≤ k ∧ st.line.length ≤ k ∧ st.line.length < W ∧
    kp = .int .i64 ((st.kept : Nat) : Int) ∧ sm = .bool st.same ∧ ln = .string ⟨st.line.toArray⟩ ∧ wr.ownsRow w.heap.size 9 1 v st.out.length (strVals st.out) ∧ Below w.heap.size w wr) (fun _ _ _ _ i _ => T.size - (intOf i).toNat)
  case atStart => exact ⟨0, finit, Nat.zero_le _, rfl, hE.out, Nat.le_refl _, Nat.le_refl _, Nat.le_refl _, by simp only [finit, List.length_nil]; omega, rfl, rfl, rfl, World.ownsRow_nil _ _ _ _, hb⟩
  case round =>
    obtain ⟨k, st, hk, rfl, hfe, ho, hkp, hln, hlw, rfl, rfl, rfl, hown, hb'⟩ := hrel
    have HF := hid hfe
    clear hfe
    obtain ⟨out, kept, same, line⟩ := st
    dsimp only at ho hkp hln hlw hown HF ⊢
    obtain ⟨a, cap, rfl, -⟩ := row_open hown
    by_cases hlt : k < T.size
    · by_cases hol : out.length < L
      · have hD := hid (drop_cons T k hlt)
        have hC : T.extract k (k + 1) = ⟨#[T[k]]⟩ := ext_one T k hlt
        generalize T[k] = c at hD hC
        have hFr := hid (show frun s.data.toList W L k (c :: T.data.toList.drop (k + 1)) ⟨out, kept, same, line⟩ = frun s.data.toList W L (k + 1) (T.data.toList.drop (k + 1)) (fstep s.data.toList W k c ⟨out, kept, same, line⟩) by rw [frun, if_pos hol])
        obtain ⟨C, hCC⟩ : ∃ C : ByteArray, C = ⟨#[c]⟩ := ⟨_, rfl⟩
        obtain ⟨P, hP⟩ : ∃ P : ByteArray, P = ⟨#[fput line c]⟩ := ⟨_, rfl⟩
        obtain ⟨LN, hLN⟩ : ∃ LN : ByteArray, LN = ⟨line.toArray⟩ := ⟨_, rfl⟩
        obtain ⟨B1, hB1⟩ : ∃ B1 : Bool, B1 = decide (line = [] ∧ (c = 58 ∨ c = 45)) := ⟨_, rfl⟩
        rw [← hCC] at hC
        rw [← hLN]
        have hPc := hid (show P = cond B1 ⟨#[46]⟩ C by
          rw [hB1, hP, hCC, fput]
          by_cases h : line = [] ∧ (c = 58 ∨ c = 45)
          · rw [if_pos h, decide_eq_true h]; rfl
          · rw [if_neg h, decide_eq_false h]; rfl)
        have hLz : LN.size ≤ 2000 := by rw [hLN, mk_size]; omega
        have hCz : C.size = 1 := by rw [hCC]; rfl
        have HLN := hid hLN
        have HP := hid hP
        have HCC := hid hCC
        have HB1 := hid hB1
        clear hLN hP hCC hB1
        go_upto_region 10 with fail
        go_cut [43] from 17 to 73 (fun b wx => b = .bool B1 ∧ wx = wr)
        case first =>
          by_cases g1 : line = []
          · have f1 : (LN.toList == []) = true := by rw [HLN.out, mk_toList, g1]; rfl
            by_cases g2 : c = 58
            · have f2 : (C.toList == [58]) = true := by rw [HCC.out, one_toList]; exact one_yes g2
              have hb1 := hid (show true = B1 by rw [HB1.out]; exact (decide_eq_true ⟨g1, .inl g2⟩).symm)
              clear g1 g2
              go_wp2_with fail
              go_meet
              rw [hb1.out]
              exact ⟨rfl, rfl⟩
            · have f2 : (C.toList == [58]) = false := by rw [HCC.out, one_toList]; exact one_no g2
              by_cases g3 : c = 45
              · have f3 : (C.toList == [45]) = true := by rw [HCC.out, one_toList]; exact one_yes g3
                have hb1 := hid (show true = B1 by rw [HB1.out]; exact (decide_eq_true ⟨g1, .inr g3⟩).symm)
                clear g1 g2 g3
                go_wp2_with fail
                go_meet
                rw [hb1.out]
                exact ⟨rfl, rfl⟩
              · have f3 : (C.toList == [45]) = false := by rw [HCC.out, one_toList]; exact one_no g3
                have hb1 := hid (show false = B1 by rw [HB1.out]; exact (decide_eq_false (fun h => h.2.elim g2 g3)).symm)
                clear g1 g2 g3
                go_wp2_with fail
                go_meet
                rw [hb1.out]
                exact ⟨rfl, rfl⟩
          · have f1 : (LN.toList == []) = false := by rw [HLN.out, mk_toList]; simpa using g1
            have hb1 := hid (show false = B1 by rw [HB1.out]; exact (decide_eq_false (fun h => g1 h.1)).symm)
            clear g1
            go_wp2_with fail
            go_meet
            rw [hb1.out]
            exact ⟨rfl, rfl⟩
        case rest =>
          obtain ⟨rfl, hwc⟩ := hcut; obtain rfl := hwc.symm
          go_upto_if 43 with fail
          go_cut [14] from 17 to 73 (fun x wx => x = .string P ∧ wx = wr)
          case first =>
            cases B1
            · go_wp2_with fail
              go_meet
              exact ⟨by rw [hPc.out]; rfl, rfl⟩
            · go_wp2_with fail
              go_meet
              exact ⟨by rw [hPc.out]; rfl, rfl⟩
          case rest =>
            obtain ⟨rfl, hwc⟩ := hcut; obtain rfl := hwc.symm
            clear hC hCz HCC hPc HB1
            obtain ⟨q, hq⟩ : ∃ q, q = fput line c := ⟨_, rfl⟩
            obtain ⟨M, hM⟩ : ∃ M, M = fsame s.data.toList k q same := ⟨_, rfl⟩
            have hst : fstep s.data.toList W k c ⟨out, kept, same, line⟩ = { out := if line.length + 1 = W then out ++ [line ++ [q]] else out, kept := if M then kept + 1 else kept, same := M, line := if line.length + 1 = W then [] else line ++ [q] } := by
              rw [hM, hq]
              simp only [fstep, List.length_append, List.length_cons, List.length_nil, Nat.zero_add]
            rw [hst] at hFr
            have HFr := hid hFr
            have HM := hid hM
            rw [← hq] at HP
            clear hst hM hq hFr
            go_upto_region 12 with fail
            go_cut [11] from 17 to 73 (fun b wx => b = .bool M ∧ wx = wr)
            case first =>
              cases same
              · have hb1 := hid (show false = M by rw [HM.out]; rfl)
                go_wp2_with fail
                go_meet
                rw [hb1.out]
                exact ⟨rfl, rfl⟩
              · by_cases g1 : k < s.size
                · have hS1 : s.extract k (k + 1) = ⟨#[s[k]]⟩ := ext_one s k g1
                  have hsk := hid (byte_at s k g1)
                  have hsl := hid hl
                  generalize s[k] = d at hS1 hsk
                  obtain ⟨D, hDD⟩ : ∃ D : ByteArray, D = ⟨#[d]⟩ := ⟨_, rfl⟩
                  rw [← hDD] at hS1
                  by_cases g2 : d = q
                  · have f2 : (D.toList == P.toList) = true := by rw [hDD, HP.out, one_toList, one_toList]; exact one_yes g2
                    have hb1 := hid (show true = M by rw [HM.out, fsame, hsk.out, g2, decide_eq_true (by omega)]; simp)
                    clear g2 hDD
                    go_wp2_with fail
                    go_meet
                    rw [hb1.out]
                    exact ⟨rfl, rfl⟩
                  · have f2 : (D.toList == P.toList) = false := by rw [hDD, HP.out, one_toList, one_toList]; exact one_no g2
                    have hb1 := hid (show false = M by rw [HM.out, fsame, hsk.out, decide_eq_true (by omega)]; simp [g2])
                    clear g2 hDD
                    go_wp2_with fail
                    go_meet
                    rw [hb1.out]
                    exact ⟨rfl, rfl⟩
                · have hb1 := hid (show false = M by rw [HM.out, fsame, decide_eq_false (by omega)]; rfl)
                  go_wp2_with fail
                  go_meet
                  rw [hb1.out]
                  exact ⟨rfl, rfl⟩
            case rest =>
              obtain ⟨rfl, hwc⟩ := hcut; obtain rfl := hwc.symm
              go_upto_if 60 with fail
              go_cut [10] from 17 to 73 (fun x wx => x = .int .i64 (((if M then kept + 1 else kept : Nat)) : Int) ∧ wx = wr)
              case first =>
                cases M
                · go_wp2_with fail
                  go_meet
                  exact ⟨rfl, rfl⟩
                · go_wp2_with fail
                  go_meet
                  exact ⟨rfl, rfl⟩
              case rest =>
                obtain ⟨rfl, hwc⟩ := hcut; obtain rfl := hwc.symm
                have hkp2 : (if M then kept + 1 else kept) ≤ k + 1 := by split <;> omega
                generalize (if M then kept + 1 else kept) = kept2 at *
                have hLP : LN ++ P = ⟨(line ++ [q]).toArray⟩ := by rw [HLN.out, HP.out]; exact str_snoc line q
                have hXz : (⟨(line ++ [q]).toArray⟩ : ByteArray).size = line.length + 1 := by rw [mk_size]; simp
                have hPz : P.size = 1 := by rw [HP.out]; rfl
                obtain ⟨X, hX⟩ : ∃ X : ByteArray, X = ⟨(line ++ [q]).toArray⟩ := ⟨_, rfl⟩
                rw [← hX] at hLP hXz
                have HX := hid hX
                clear hX
                by_cases hfull : line.length + 1 = W
                · have hfull2 : ((X.size : Int) == (W : Int)) = true := by rw [beq_iff_eq]; omega
                  rw [if_pos hfull, if_pos hfull] at HFr
                  clear hfull hXz
                  go_wp2_with (at_builtin; refine wpList_append_own _ rfl _ _ 29 rfl w.heap.size 9 i0 (.string ⟨#[]⟩) 1 16 Try.underlying29 hi hz0 hz1 hz2 rfl (by decide) _ _ _ rfl (hown.alloc _) ⟨wr.heap.size, 0, none⟩ 1 1 [.string X] rfl rfl (cell_one_new _ _ _) (by intro u hu; simp at hu; subst hu; rfl) (by unfold maxLen; omega) (by omega) (by have := hb'.size; simp; omega) ?_; intro v' w2 hown' hgrow _)
                  have hb2 : Below w.heap.size w w2 := (hb'.alloc hb'.size _).grown hgrow (by have := hb'.size; simp; omega) (fun j hj => (hown.lt j hj).1)
                  clear hgrow hown hb'
                  have HO' := hid hown'
                  clear hown'
                  go_roundw
                  case rel =>
                    refine ⟨k + 1, ⟨out ++ [line ++ [q]], kept2, M, []⟩, by omega, by go_num, ?_, by simp; omega, hkp2, by simp, by simp only [List.length_nil]; omega, rfl, rfl, rfl, ?_, hb2⟩
                    · rw [HF.out, hD.out]; exact HFr.out
                    · simp only [List.length_append, List.length_cons, List.length_nil, Nat.zero_add, strVals_append]
                      have h := HO'.out
                      rw [HX.out] at h
                      exact h
                  case measure => simp [intOf]; omega
                · have hfull2 : ((X.size : Int) == (W : Int)) = false := by rw [beq_eq_false_iff_ne]; omega
                  have HFull := hid hfull
                  rw [if_neg hfull, if_neg hfull] at HFr
                  clear hfull hXz
                  go_wp2_with fail
                  go_roundw
                  case rel =>
                    refine ⟨k + 1, ⟨out, kept2, M, line ++ [q]⟩, by omega, by go_num, ?_, by dsimp only; omega, hkp2, by simp; omega, by have := HFull.out; simp only [List.length_append, List.length_cons, List.length_nil]; omega, rfl, rfl, by rw [HX.out], hown, hb'⟩
                    rw [HF.out, hD.out]; exact HFr.out
                  case measure => simp [intOf]; omega
      · have HOl := hid hol
        have hd := hid (drop_cons T k hlt)
        have hend := hid (show fe = ⟨out, kept, same, line⟩ by rw [HF.out, hd.out, frun, if_neg HOl.out])
        have hol2 : L ≤ out.length := by omega
        clear hol hd HOl HF
        rw [hend.out] at hF hK
        dsimp only at hF hK
        by_cases g1 : line = []
        · rw [if_pos g1] at hF
          subst g1
          have hfv := hid hF.out
          have hkv := hid hK.out
          go_wp2_with fail
          go_returns
          rw [hfv.out, hkv.out]
          exact ⟨_, rfl, hown, hb'⟩
        · rw [if_neg g1] at hF
          obtain ⟨LN, hLN⟩ : ∃ LN : ByteArray, LN = ⟨line.toArray⟩ := ⟨_, rfl⟩
          have f1 : (LN.toList == []) = false := by rw [hLN, mk_toList]; simpa using g1
          rw [← hLN]
          have HLN := hid hLN
          clear hLN g1
          go_wp2_with (at_builtin; refine wpList_append_own _ rfl _ _ 29 rfl w.heap.size 9 i0 (.string ⟨#[]⟩) 1 16 Try.underlying29 hi hz0 hz1 hz2 rfl (by decide) _ _ _ rfl (hown.alloc _) ⟨wr.heap.size, 0, none⟩ 1 1 [.string LN] rfl rfl (cell_one_new _ _ _) (by intro u hu; simp at hu; subst hu; rfl) (by unfold maxLen; omega) (by omega) (by have := hb'.size; simp; omega) ?_; intro v' w2 hown' hgrow _)
          have hb2 : Below w.heap.size w w2 := (hb'.alloc hb'.size _).grown hgrow (by have := hb'.size; simp; omega) (fun j hj => (hown.lt j hj).1)
          go_returns
          rw [hF.out, hK.out, List.length_append, strVals_append]
          rw [HLN.out] at hown'
          exact ⟨_, rfl, hown', hb2⟩
    · obtain rfl : k = T.size := by omega
      have hend := hid (show fe = ⟨out, kept, same, line⟩ by rw [HF.out, List.drop_of_length_le (by simp), frun])
      clear HF
      rw [hend.out] at hF hK
      dsimp only at hF hK
      by_cases g1 : line = []
      · rw [if_pos g1] at hF
        subst g1
        go_wp2_with fail
        go_returns
        rw [hF.out, hK.out]
        exact ⟨_, rfl, hown, hb'⟩
      · rw [if_neg g1] at hF
        obtain ⟨LN, hLN⟩ : ∃ LN : ByteArray, LN = ⟨line.toArray⟩ := ⟨_, rfl⟩
        have f1 : (LN.toList == []) = false := by rw [hLN, mk_toList]; simpa using g1
        rw [← hLN]
        have HLN := hid hLN
        clear hLN g1
        go_wp2_with (at_builtin; refine wpList_append_own _ rfl _ _ 29 rfl w.heap.size 9 i0 (.string ⟨#[]⟩) 1 16 Try.underlying29 hi hz0 hz1 hz2 rfl (by decide) _ _ _ rfl (hown.alloc _) ⟨wr.heap.size, 0, none⟩ 1 1 [.string LN] rfl rfl (cell_one_new _ _ _) (by intro u hu; simp at hu; subst hu; rfl) (by unfold maxLen; omega) (by omega) (by have := hb'.size; simp; omega) ?_; intro v' w2 hown' hgrow _)
        have hb2 : Below w.heap.size w w2 := (hb'.alloc hb'.size _).grown hgrow (by have := hb'.size; simp; omega) (fun j hj => (hown.lt j hj).1)
        go_returns
        rw [hF.out, hK.out, List.length_append, strVals_append]
        rw [HLN.out] at hown'
        exact ⟨_, rfl, hown', hb2⟩
end Go.Proofs.Ythmfojkklianlaa
