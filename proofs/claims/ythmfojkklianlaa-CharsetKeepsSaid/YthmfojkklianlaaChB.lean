/-
  The document's own answer for what is substituted: Substitute.
-/
import Derived.Test.YthmfojkklianlaaChC
namespace Go.Proofs.Ythmfojkklianlaa
open Go.RowKit

/-- A row, opened. -/
theorem row_open {w : World} {base : Nat} {e : TypeId} {v : Value} {n : Nat} {xs : List Value} (h : w.ownsRow base e 1 v n xs) :
    ∃ a cap, v = .slice a n cap ∧ ∀ j, j < n → ∃ g, a = some ⟨g, 0, none⟩ ∧ g < w.heap.size ∧ w.cell? ⟨g, j, none⟩ = xs[j]? := by
  have h' := h
  obtain ⟨hl, ⟨rfl, rfl⟩ | ⟨g, cap, cur, rfl, _⟩⟩ := h
  · exact ⟨none, 0, rfl, fun j hj => by omega⟩
  · exact ⟨_, _, rfl, fun j hj => ⟨g, rfl, (h'.lt g rfl).2, World.ownsRow.cellAt h' j (by omega)⟩⟩
theorem str_snoc (a : List UInt8) (c : UInt8) : (⟨a.toArray⟩ ++ ⟨#[c]⟩ : ByteArray) = ⟨(a ++ [c]).toArray⟩ := ib_str_eq (by simp)
theorem mk_size (a : List UInt8) : (⟨a.toArray⟩ : ByteArray).size = a.length := by simp [ByteArray.size]

theorem subC_other (p : List UInt8) (h : ¬ ∃ c, p = [c]) : subC p = 46 := by
  match p, h with
  | [], _ => rfl
  | [c], h => exact absurd ⟨c, rfl⟩ h
  | _ :: _ :: _, _ => rfl

set_option maxRecDepth 100000 in
set_option maxHeartbeats 8000000 in
theorem refsubst_any (s : ByteArray) (w : World) (hs : s.size ≤ 2000) :
    Calls Try.prog 9 #[.string s] w fun e w' => e = .returned (.string ⟨(subL s.data.toList).toArray⟩) ∧ Below w.heap.size w w' := by
  have HI := hid (fun (c : UInt8) w' => refin_any 88 c w')
  have hcl : (charsL s.data.toList).length ≤ 2000 := by
    have := charsL_len _ s.data.toList (Nat.le_refl _)
    simp at this; omega
  have hsub := hid (show subL s.data.toList = (charsL s.data.toList).map subC from rfl)
  have HCh := hid (fun w' => refchars_any s w' (by omega))
  generalize charsL s.data.toList = ps at *
  generalize subL s.data.toList = out at *
  go_enter Try.func9, Try.ntmps9
  go_wp2_with fail
  refine (HCh.out _).mono ?_
  rintro e w1 ⟨v, rfl, hrow, hb⟩
  obtain ⟨a, cap, rfl, hcells⟩ := row_open hrow
  have HC := hid hcells
  clear hrow hcells HCh
  go_wp2
  go_loop [3, 5] (fun o i => ∃ k : Nat, k ≤ ps.length ∧ i = .int .i64 k ∧ o = .string ⟨((ps.take k).map subC).toArray⟩) (fun _ i => ps.length - (intOf i).toNat)
  case atStart => exact ⟨0, Nat.zero_le _, rfl, rfl⟩
  case round =>
    obtain ⟨k, hk, rfl, rfl⟩ := hrel
    by_cases hlt : k < ps.length
    · obtain ⟨g, rfl, hg, hcell⟩ := HC.out k hlt
      rw [strVals, List.getElem?_map, List.getElem?_eq_getElem hlt, Option.map_some] at hcell
      have HS := hid (show (ps.take (k + 1)).map subC = (ps.take k).map subC ++ [subC ps[k]] by rw [List.take_succ_eq_append_getElem hlt, List.map_append]; rfl)
      have hz : ((ps.take k).map subC).length ≤ 2000 := by simp; omega
      generalize (ps.take k).map subC = o at *
      have hzo : (⟨o.toArray⟩ : ByteArray).size ≤ 2000 := by rw [mk_size]; exact hz
      have z1 : (⟨#[46]⟩ : ByteArray).size = 1 := rfl
      have HD := hid (str_snoc o 46)
      generalize ps[k] = p at *
      by_cases hp : ∃ c, p = [c]
      · obtain ⟨c, rfl⟩ := hp
        have HI' := hid (fun w' => HI.out c w')
        have HE := hid (show subC [c] = if inX c then c else 46 from rfl)
        have HI2 := hid (show inV 88 c = inX c from rfl)
        have HD2 := hid (str_snoc o c)
        rw [HI2.out] at HI'
        cases hx : inX c
        · rw [hx] at HI' HE
          have HE2 := hid (HE.out.trans (if_neg (by decide)))
          clear hx HI2 HE
          go_wp2_with fail
          refine (HI'.out _).mono ?_
          rintro e w2 ⟨rfl, hw2⟩
          obtain rfl := hw2.symm
          go_wp2
          rw [HD.out]
          go_round
          case rel => exact ⟨k + 1, by omega, by go_num, by rw [HS.out, HE2.out]⟩
          case measure => simp [intOf]; omega
        · rw [hx] at HI' HE
          have HE2 := hid (HE.out.trans (if_pos rfl))
          clear hx HI2 HE
          go_wp2_with fail
          refine (HI'.out _).mono ?_
          rintro e w2 ⟨rfl, hw2⟩
          obtain rfl := hw2.symm
          go_wp2
          rw [HD2.out]
          go_round
          case rel => exact ⟨k + 1, by omega, by go_num, by rw [HS.out, HE2.out]⟩
          case measure => simp [intOf]; omega
      · have hpl : ¬ p.length = 1 := fun h => hp (by
          obtain ⟨c, hc⟩ := List.length_eq_one_iff.1 h
          exact ⟨c, hc⟩)
        have HE2 := hid (subC_other p hp)
        have hps : ¬ (⟨p.toArray⟩ : ByteArray).size = 1 := by rw [mk_size]; exact hpl
        clear hp hpl
        generalize (⟨p.toArray⟩ : ByteArray) = P at *
        have hps2 : ((P.size : Int) == 1) = false := by rw [beq_eq_false_iff_ne]; omega
        go_wp2
        rw [HD.out]
        go_round
        case rel => exact ⟨k + 1, by omega, by go_num, by rw [HS.out, HE2.out]⟩
        case measure => simp [intOf]; omega
    · obtain rfl : k = ps.length := by omega
      go_wp2
      go_returns
      rw [hsub.out]
      exact ⟨rfl, hb⟩
end Go.Proofs.Ythmfojkklianlaa
