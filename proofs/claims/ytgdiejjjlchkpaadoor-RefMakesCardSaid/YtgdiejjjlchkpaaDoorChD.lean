/-
  What is told of a text and a set; rows of texts; how long folded lines are.
-/
import Derived.Test.YtgdiejjjlchkpaaDoorChF
namespace Go.Proofs.YtgdiejjjlchkpaaDoor
open Go.RowKit

/-- The first place at which no byte of the set stands. -/
def firstNo (n : Nat) (l : List UInt8) : Nat := (l.takeWhile (inV n)).length
def chkV (n : Nat) (l : List UInt8) : Nat × Int := if n = 88 ∨ n = 89 ∨ n = 90 then (firstNo n l, if firstNo n l = l.length then 0 else 15) else (0, 1)
theorem firstNo_eq {n : Nat} {l : List UInt8} {k : Nat} (h : (l.take k).all (inV n) = true) (hk : k ≤ l.length) (hs : k = l.length ∨ ∃ h : k < l.length, inV n l[k] = false) : firstNo n l = k := by
  rw [List.all_eq_true] at h
  have e : l.takeWhile (inV n) = l.take k := by
    conv => lhs; rw [← List.take_append_drop k l]
    rw [List.takeWhile_append_of_pos h]
    rcases hs with hs | ⟨hs, hb⟩
    · rw [List.drop_of_length_le (by omega)]; simp
    · rw [List.drop_eq_getElem_cons hs, List.takeWhile_cons_of_neg (by simp [hb])]; simp
  rw [firstNo, e, List.length_take]
  omega

/-- A row of texts that may be read. -/
def RowS (w : World) (v : Value) (ps : List (List UInt8)) : Prop := ∃ a cap, v = .slice a ps.length cap ∧ ps.length ≤ cap ∧ ∀ j, j < ps.length → ∃ g, a = some ⟨g, 0, none⟩ ∧ g < w.heap.size ∧ w.cell? ⟨g, j, none⟩ = (strVals ps)[j]?
theorem RowS.of {w : World} {base : Nat} {v : Value} {ps : List (List UInt8)} (h : w.ownsRow base 9 1 v ps.length (strVals ps)) : RowS w v ps := by
  have h' := h
  obtain ⟨hl, ⟨rfl, h0⟩ | ⟨g, cap, cur, rfl, _, _, hn, _⟩⟩ := h
  · exact ⟨none, 0, by rw [h0], by omega, fun j hj => by omega⟩
  · exact ⟨_, _, rfl, hn, fun j hj => ⟨g, rfl, (h'.lt g rfl).2, World.ownsRow.cellAt h' j (by omega)⟩⟩
theorem RowS.below {w w' : World} {B : Nat} {v : Value} {ps : List (List UInt8)} (h : RowS w v ps) (hb : Below B w w') (hB : w.heap.size ≤ B) : RowS w' v ps := by
  obtain ⟨a, cap, e, hn, hc⟩ := h
  refine ⟨a, cap, e, hn, fun j hj => ?_⟩
  obtain ⟨g, e2, hg, h2⟩ := hc j hj
  exact ⟨g, e2, Nat.lt_of_lt_of_le hg hb.size, (hb.cell (p := ⟨g, j, none⟩) (Nat.lt_of_lt_of_le hg hB)).trans h2⟩
theorem strVals_at {ps : List (List UInt8)} {j : Nat} (h : j < ps.length) : (strVals ps)[j]? = some (.string ⟨ps[j].toArray⟩) := by
  rw [strVals, List.getElem?_map, List.getElem?_eq_getElem h]; rfl

/-- All bytes that are in lines come from the text's characters. -/
theorem frun_size (s : List UInt8) (W L : Nat) : ∀ (r : List UInt8) (i : Nat) (st : FSt), (frun s W L i r st).out.flatten.length + (frun s W L i r st).line.length ≤ st.out.flatten.length + st.line.length + r.length ∧ (frun s W L i r st).out.length ≤ st.out.length + r.length
  | [], i, st => by rw [frun]; exact ⟨by simp, by simp⟩
  | c :: r, i, st => by
    rw [frun]
    split
    · obtain ⟨h1, h2⟩ := frun_size s W L r (i + 1) (fstep s W i c st)
      have e1 : (fstep s W i c st).out.flatten.length + (fstep s W i c st).line.length = st.out.flatten.length + st.line.length + 1 := by
        simp only [fstep]
        split
        · simp; omega
        · simp; omega
      have e2 : (fstep s W i c st).out.length ≤ st.out.length + 1 := by
        simp only [fstep]
        split
        · simp
        · omega
      simp only [List.length_cons]
      omega
    · exact ⟨by omega, by omega⟩
theorem foldV_two (s : List UInt8) (W L : Nat) : ((fend s W L).line = [] ∧ foldV s W L = (fend s W L).out) ∨ (¬ (fend s W L).line = [] ∧ foldV s W L = (fend s W L).out ++ [(fend s W L).line]) := by
  have e : foldV s W L = if (fend s W L).line = [] then (fend s W L).out else (fend s W L).out ++ [(fend s W L).line] := rfl
  by_cases h : (fend s W L).line = []
  · exact .inl ⟨h, by rw [e, if_pos h]⟩
  · exact .inr ⟨h, by rw [e, if_neg h]⟩
theorem foldV_size (s : List UInt8) (W L : Nat) : (foldV s W L).flatten.length ≤ s.length ∧ (foldV s W L).length ≤ s.length + 1 := by
  have h : (fend s W L).out.flatten.length + (fend s W L).line.length ≤ (finit.out.flatten.length + finit.line.length) + (subL s).length ∧ (fend s W L).out.length ≤ finit.out.length + (subL s).length := frun_size s W L (subL s) 0 finit
  have hc : (subL s).length ≤ s.length := by rw [subL, List.length_map]; exact charsL_len _ s (Nat.le_refl _)
  have e1 : finit.out.flatten.length = 0 := rfl
  have e2 : finit.line.length = 0 := rfl
  have e3 : finit.out.length = 0 := rfl
  rcases foldV_two s W L with ⟨_, e⟩ | ⟨_, e⟩
  · rw [e]; exact ⟨by omega, by omega⟩
  · rw [e]
    simp only [List.flatten_append, List.length_append, List.flatten_cons, List.flatten_nil, List.append_nil, List.length_cons, List.length_nil]
    exact ⟨by omega, by omega⟩
end Go.Proofs.YtgdiejjjlchkpaaDoor
