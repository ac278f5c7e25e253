/-
  The walk of CharsetKeeps.
-/
import Derived.Test.YthmfojkklianlaaChW
import Derived.Test.YthmfojkklianlaaChK
namespace Go.Proofs.Ythmfojkklianlaa
open Go.RowKit

set_option maxRecDepth 100000 in
set_option maxHeartbeats 2000000 in
theorem hKeeps_long (s : ByteArray) (W L : Nat) (w : World) (hs : s.size ≤ 9223372036854775807) (h : 1000 < s.size ∨ s.size ≤ 1000 ∧ (W < 1 ∨ 1 ≤ W ∧ (100 < W ∨ W ≤ 100 ∧ (L < 1 ∨ 1 ≤ L ∧ 100 < L)))) :
    Calls Try.prog 5 #[.string s, .int .u8 W, .int .u8 L] w fun e w' => e = .returned (.bool true) ∧ Below w.heap.size w w' := by
  rcases h with h | ⟨h, h1 | ⟨h1, h2 | ⟨h2, h3 | ⟨h3, h4⟩⟩⟩⟩
  all_goals
    go_enter Try.func5, Try.ntmps5
    go_wp2_with (go_at_call 6; with_reducible refine (chwakes_any _).mono ?_; rintro e w1 ⟨rfl, h1⟩)
    go_returns
    exact ⟨rfl, by assumption⟩

def ncB (c : UInt8) : Bool := !(c == 58) && !(c == 45)

set_option maxRecDepth 100000 in
set_option maxHeartbeats 16000000 in
theorem hKeeps_good (s : ByteArray) (W L : Nat) (w : World) (hs : s.size ≤ 1000) (hW : 1 ≤ W) (hW2 : W ≤ 100) (hL : 1 ≤ L) (hL2 : L ≤ 100) :
    Calls Try.prog 5 #[.string s, .int .u8 W, .int .u8 L] w fun e w' => e = .returned (.bool true) ∧ Below w.heap.size w w' := by
  have hl : s.data.toList.length = s.size := by simp
  have hcl : (charsL s.data.toList).length ≤ s.size := by have := charsL_len _ s.data.toList (Nat.le_refl _); omega
  obtain ⟨T, hT⟩ : ∃ T : ByteArray, T = ⟨(subL s.data.toList).toArray⟩ := ⟨_, rfl⟩
  have hTl : T.data.toList = subL s.data.toList := by rw [hT]
  have hTz : T.size = (charsL s.data.toList).length := by rw [hT, mk_size, subL, List.length_map]
  have S1 := hid (fun w' => chsubst_any s (by omega) w')
  have S2 := hid (fun w' => chsubst_any T (by omega) w')
  have C1 := hid (fun w' => chcheck_any 88 T (by decide) (by omega) w')
  have C2 := hid (fun w' => chcheck_any 88 s (by decide) (by omega) w')
  have R := hid (fun w' => refchars_any s w' (by omega))
  have F := hid (fun w' => chfold_any s (by omega) W L hW (by omega) hL (by omega) w')
  have hTT : (⟨(subL T.data.toList).toArray⟩ : ByteArray) = T := by rw [hTl, sub_same _ (sub_in _), ← hT]
  rw [← hT] at S1
  rw [hTT] at S2
  rw [hTl, chk_ok (sub_in _)] at C1
  dsimp only at C1
  have hfl := fold_lines (s := s.data.toList) (W := W) (L := L) hW
  have hkl := kept_le (s := s.data.toList) (W := W) (L := L)
  have hfz := foldV_size s.data.toList W L
  have hpl : s.data.toList.all inX = true → s.data.toList.all ncB = true → s.data.toList.length ≤ W * L → (foldV s.data.toList W L).flatten = s.data.toList ∧ keptV s.data.toList W L = s.data.toList.length := fun h1 h2 h3 =>
    plain_fold hW h1 (by
      rw [List.all_eq_true] at h2
      intro c hc
      have := h2 c hc
      simpa [ncB] using this) h3
  obtain ⟨M, hM⟩ : ∃ M : Nat, (W : Int) * (L : Int) = (M : Int) := ⟨W * L, by simp⟩
  have hM2 : W * L = M := by
    have : ((W * L : Nat) : Int) = (M : Int) := by simpa using hM
    omega
  have hM3 : M ≤ 10000 := by rw [← hM2]; exact Nat.mul_le_mul hW2 hL2
  have hx : ∃ PB : Bool, ((chkV 88 s.data.toList).2 = 0 ∧ (T.toList == s.toList) = true ∧ s.size ≤ M ∧ PB = true ∧ s.data.toList.all inX = true) ∨ ((chkV 88 s.data.toList).2 = 0 ∧ (T.toList == s.toList) = true ∧ M < s.size ∧ PB = false ∧ True) ∨ ((chkV 88 s.data.toList).2 = 15 ∧ True ∧ True ∧ PB = false ∧ True) := by
    cases h : s.data.toList.all inX
    · exact ⟨false, .inr (.inr ⟨chk_no h, trivial, trivial, rfl, trivial⟩)⟩
    · by_cases hm : s.size ≤ M
      · exact ⟨true, .inl ⟨by rw [chk_ok h], toList_yes (by rw [hT, sub_same _ h]), hm, rfl, rfl⟩⟩
      · exact ⟨false, .inr (.inl ⟨by rw [chk_ok h], toList_yes (by rw [hT, sub_same _ h]), by omega, rfl, trivial⟩)⟩
  rw [hM2] at hpl
  generalize foldV s.data.toList W L = ps at *
  generalize keptV s.data.toList W L = kv at *
  generalize (chkV 88 s.data.toList).1 = c1 at *
  generalize (chkV 88 s.data.toList).2 = c2 at *
  generalize (subL s.data.toList).length = c3 at *
  generalize charsL s.data.toList = cs at *
  have J := hid (fun v w' h => chjoin_any v ps (by omega) (by omega) w' h)
  have HPL := hid hpl
  have HFL := hid hfl.2
  have hpsL := hfl.1
  clear hT hTl hTT hpl hfl hM2
  obtain ⟨PB, hx⟩ := hx
  rcases hx with ⟨rfl, hts, hlen, hPB, hax⟩ | ⟨rfl, hts, hlen, hPB, hax⟩ | ⟨rfl, hts, hlen, hPB, hax⟩
  all_goals
    have HPB := hid hPB
    have HAX := hid hax
    clear hPB hax
    go_enter Try.func5, Try.ntmps5
    go_wp2_with fail
    refine (S1.out _).mono ?_
    rintro e w1 ⟨rfl, h1⟩
    go_wp2_with fail
    refine (C1.out _).mono ?_
    rintro e w2 ⟨rfl, h2⟩
    have b2 := h1.trans (h2.mono h1.size)
    clear h1 h2
    go_wp2_with fail
    refine (C2.out _).mono ?_
    rintro e w3 ⟨rfl, h3⟩
    have b3 := b2.trans (h3.mono b2.size)
    clear b2 h3
    go_wp2_with fail
    refine (R.out _).mono ?_
    rintro e w4 ⟨v0, rfl, o0, h4⟩
    have b4 := b3.trans (h4.mono b3.size)
    obtain ⟨a0, cap0, rfl, -⟩ := row_open o0
    clear b3 h4 o0
    go_wp2_with fail
    refine (S2.out _).mono ?_
    rintro e w5 ⟨rfl, h5⟩
    have b5 := b4.trans (h5.mono b4.size)
    clear b4 h5
    go_wp2_with fail
    refine (F.out _).mono ?_
    rintro e w6 ⟨v, rfl, r6, h6⟩
    have b6 := b5.trans (h6.mono b5.size)
    clear b5 h6 S1 S2 C1 C2 R F
    have HR6 := hid r6
    obtain ⟨a, cap, rfl, -, hc6⟩ := r6
    have HC6 := hid hc6
    clear hc6
    go_wp2_with fail
    go_loop [15] (fun i => ∃ k : Nat, k ≤ ps.length ∧ i = .int .i64 k) (fun i => ps.length - (intOf i).toNat)
  all_goals try (exact ⟨0, Nat.zero_le _, rfl⟩)
  all_goals
    obtain ⟨k, hk, rfl⟩ := hrel
    by_cases hlt : k < ps.length
    · obtain ⟨g, rfl, hg, hcell⟩ := HC6.out k hlt
      rw [strVals_at hlt] at hcell
      obtain ⟨⟨hne, hlw, h58, h45⟩, hfull⟩ := HFL.out k hlt
      generalize ps[k] = p at hcell hne hlw h58 h45 hfull
      obtain ⟨d, q, rfl⟩ : ∃ d q, p = d :: q := by
        cases p with
        | nil => exact absurd rfl hne
        | cons d q => exact ⟨d, q, rfl⟩
      have hPz : (⟨(d :: q).toArray⟩ : ByteArray).size = (d :: q).length := mk_size _
      have f1 : ((⟨(d :: q).toArray⟩ : ByteArray).toList == []) = false := by rw [mk_toList]; rfl
      have hP0 : ∀ h : 0 < (⟨(d :: q).toArray⟩ : ByteArray).size, (⟨(d :: q).toArray⟩ : ByteArray)[0] = d := fun _ => rfl
      have h58' : ¬ d = 58 := fun e => h58 (by rw [e]; rfl)
      have h45' : ¬ d = 45 := fun e => h45 (by rw [e]; rfl)
      generalize (⟨(d :: q).toArray⟩ : ByteArray) = P at hcell hPz f1 hP0
      generalize (d :: q).length = pn at hPz hlw hfull
      have hpos : 0 < P.size := by
        rcases Nat.eq_zero_or_pos P.size with h | h
        · exact absurd f1 (by rw [ByteArray.toList_eq]; have : P.data.toList = [] := List.eq_nil_of_length_eq_zero (by simpa using h); rw [this]; decide)
        · exact h
      have hP1 := hP0 hpos
      have t58 : ((P[0].toNat : Int) == 58) = false := by
        rw [hP1, beq_eq_false_iff_ne]; intro e; exact h58' (UInt8.toNat_inj.1 (by have : (58 : UInt8).toNat = 58 := rfl; omega))
      have t45 : ((P[0].toNat : Int) == 45) = false := by
        rw [hP1, beq_eq_false_iff_ne]; intro e; exact h45' (UInt8.toNat_inj.1 (by have : (45 : UInt8).toNat = 45 := rfl; omega))
      have hPW : P.size ≤ W := by omega
      by_cases hlast : k + 1 < ps.length
      · have hPe : ((P.size : Int) != (W : Int)) = false := by rw [bne_eq_false_iff_eq]; have := hfull hlast; omega
        clear hne h58 h45 hfull h58' h45' hP0 hP1 hPz hlw
        go_wp2_with fail
        go_round
        case rel => exact ⟨k + 1, by omega, by go_num⟩
        case measure => simp [intOf]; omega
      · clear hne h58 h45 hfull h58' h45' hP0 hP1 hPz hlw
        go_wp2_with fail
        go_round
        case rel => exact ⟨k + 1, by omega, by go_num⟩
        case measure => simp [intOf]; omega
    · obtain rfl : k = ps.length := by omega
      go_wp2_with fail
      go_loop [16, 17] (fun pl i => ∃ j : Nat, j ≤ s.size ∧ i = .int .i64 j ∧ pl = .bool (PB && (s.data.toList.take j).all ncB)) (fun _ i => s.size - (intOf i).toNat)
      case atStart => exact ⟨0, Nat.zero_le _, rfl, by rw [HPB.out]; first | rfl | exact congrArg Value.bool ((decide_eq_false (by omega)).trans (Bool.false_and _).symm) | exact congrArg Value.bool ((decide_eq_true (by omega)).trans rfl)⟩
      case round =>
        obtain ⟨j, hj, rfl, rfl⟩ := hrel
        by_cases hjs : j < s.size
        · have hsn := hid (take_snoc s j hjs)
          have hstep := hid (show (PB && (s.data.toList.take (j + 1)).all ncB) = ((PB && (s.data.toList.take j).all ncB) && ncB s[j]) by rw [hsn.out, List.all_append]; simp [Bool.and_assoc])
          generalize (PB && (s.data.toList.take j).all ncB) = q at hstep ⊢
          cases q
          · go_wp2_with fail
            go_round
            case rel => exact ⟨j + 1, by omega, by go_num, by rw [hstep.out]; rfl⟩
            case measure => simp [intOf]; omega
          · have hnc := hid (show ncB s[j] = (!(s[j] == 58) && !(s[j] == 45)) from rfl)
            by_cases g1 : s[j] = 58
            · have f1 : ((s[j].toNat : Int) != 58) = false := by rw [g1]; rfl
              have hv := hid (show (true && ncB s[j]) = false by rw [hnc.out, g1]; rfl)
              clear g1
              go_wp2_with fail
              go_round
              case rel => exact ⟨j + 1, by omega, by go_num, by rw [hstep.out, hv.out]⟩
              case measure => simp [intOf]; omega
            · have f1 : ((s[j].toNat : Int) != 58) = true := by
                rw [bne_iff_ne]; intro e; exact g1 (UInt8.toNat_inj.1 (by have : (58 : UInt8).toNat = 58 := rfl; omega))
              by_cases g2 : s[j] = 45
              · have f2 : ((s[j].toNat : Int) != 45) = false := by rw [g2]; rfl
                have hv := hid (show (true && ncB s[j]) = false by rw [hnc.out, g2]; rfl)
                clear g1 g2
                go_wp2_with fail
                go_round
                case rel => exact ⟨j + 1, by omega, by go_num, by rw [hstep.out, hv.out]⟩
                case measure => simp [intOf]; omega
              · have f2 : ((s[j].toNat : Int) != 45) = true := by
                  rw [bne_iff_ne]; intro e; exact g2 (UInt8.toNat_inj.1 (by have : (45 : UInt8).toNat = 45 := rfl; omega))
                have hv := hid (show (true && ncB s[j]) = true by rw [hnc.out, beq_eq_false_iff_ne.2 g1, beq_eq_false_iff_ne.2 g2]; rfl)
                clear g1 g2
                go_wp2_with fail
                go_round
                case rel => exact ⟨j + 1, by omega, by go_num, by rw [hstep.out, hv.out]⟩
                case measure => simp [intOf]; omega
        · obtain rfl : j = s.size := by omega
          have hta : (s.data.toList.take s.size) = s.data.toList := take_all s
          have J2 := hid (J.out _ _ HR6.out)
          rw [hta]
          cases hq : (PB && s.data.toList.all ncB)
          · clear hq
            go_wp2_with fail
            refine (chwakes_any _).mono ?_
            rintro e w8 ⟨rfl, h8⟩
            go_wp2
            go_returns
            exact ⟨rfl, b6.trans (h8.mono b6.size)⟩
          · have hPBt : PB = true := by cases PB; · cases hq
                                        · rfl
            have hnc : s.data.toList.all ncB = true := by rw [hPBt] at hq; exact hq
            have hle : s.data.toList.length ≤ M := by
              first
                | omega
                | (exfalso; have h := HPB.out; rw [h] at hPBt; cases hPBt)
            have hin : s.data.toList.all inX = true := by
              first
                | exact HAX.out
                | (exfalso; have h := HPB.out; rw [h] at hPBt; cases hPBt)
            obtain ⟨e1, e2⟩ := HPL.out hin hnc hle
            have hk2 : ((kv : Int) == (s.size : Int)) = true := by rw [beq_iff_eq]; omega
            have hX : (⟨ps.flatten.toArray⟩ : ByteArray) = s := ib_str_eq e1
            rw [hX] at J2
            clear hq hnc hin e1 e2 hX hle hPBt
            go_wp2_with fail
            refine J2.out.mono ?_
            rintro e w7 ⟨rfl, h7⟩
            have b7 := b6.trans (h7.mono b6.size)
            go_wp2_with fail
            refine (chwakes_any _).mono ?_
            rintro e w8 ⟨rfl, h8⟩
            go_wp2
            go_returns
            exact ⟨rfl, b7.trans (h8.mono b7.size)⟩

theorem u8_wf (x : Int) (h : (Lit.int .u8 x).wf = true) : ∃ n : Nat, x = (n : Int) ∧ n ≤ 255 := by
  have e1 : IntKind.u8.min = 0 := by decide
  have e2 : IntKind.u8.max = 255 := by decide
  rw [Lit.wf, e1, e2, Bool.and_eq_true, decide_eq_true_eq, decide_eq_true_eq] at h
  exact ⟨x.toNat, by omega, by omega⟩

theorem hKeeps_any (s : ByteArray) (hs : s.size ≤ 9223372036854775807) (W : Int) (hW : (Lit.int .u8 W).wf = true) (L : Int) (hL : (Lit.int .u8 L).wf = true) (w : World) :
    Calls Try.prog 5 #[.string s, .int .u8 W, .int .u8 L] w fun e w' => e = .returned (.bool true) ∧ Below w.heap.size w w' := by
  obtain ⟨a, rfl, ha⟩ := u8_wf W hW
  obtain ⟨b, rfl, hb⟩ := u8_wf L hL
  by_cases h : s.size ≤ 1000 ∧ 1 ≤ a ∧ a ≤ 100 ∧ 1 ≤ b ∧ b ≤ 100
  · exact hKeeps_good s a b w h.1 h.2.1 h.2.2.1 h.2.2.2.1 h.2.2.2.2
  · exact hKeeps_long s a b w hs (by omega)
end Go.Proofs.Ythmfojkklianlaa
