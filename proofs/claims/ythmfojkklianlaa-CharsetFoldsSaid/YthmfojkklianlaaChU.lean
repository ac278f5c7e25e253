/-
  Folded lines, as plain lists: pieces of a width, each a line; how many bytes two texts begin with that are the same.
-/
import Derived.Test.YthmfojkklianlaaChD
namespace Go.Proofs.Ythmfojkklianlaa

/-- A piece, as a line. -/
def lineV : List UInt8 → List UInt8
  | [] => []
  | c :: r => (if c = 58 ∨ c = 45 then 46 else c) :: r
theorem lineV_len (p : List UInt8) : (lineV p).length = p.length := by cases p <;> simp [lineV]
/-- The first M pieces of a width that a text is cut into. -/
def chunks (W : Nat) : Nat → List UInt8 → List (List UInt8)
  | 0, _ => []
  | M + 1, r => if r = [] then [] else r.take W :: chunks W M (r.drop W)
/-- What a byte that is put into a line becomes. -/
def putL (line a : List UInt8) : List UInt8 := if line = [] then lineV a else a
theorem fput_put (line : List UInt8) (c : UInt8) (a : List UInt8) : line ++ [fput line c] ++ putL (line ++ [fput line c]) a = line ++ putL line (c :: a) := by
  have h1 : putL (line ++ [fput line c]) a = a := by rw [putL, if_neg (by simp)]
  rw [h1, putL, fput]
  by_cases h : line = []
  · rw [if_pos h, lineV]
    by_cases hc : c = 58 ∨ c = 45
    · rw [if_pos ⟨h, hc⟩, if_pos hc]; simp
    · rw [if_neg (fun x => hc x.2), if_neg hc]; simp
  · rw [if_neg h, if_neg (fun x => h x.1)]; simp
theorem frun_part (s : List UInt8) (W L : Nat) : ∀ (a b : List UInt8) (i : Nat) (st : FSt), st.line.length + a.length < W → st.out.length < L →
    ∃ k m, frun s W L i (a ++ b) st = frun s W L (i + a.length) b { out := st.out, kept := k, same := m, line := st.line ++ putL st.line a }
  | [], b, i, st, _, _ => ⟨st.kept, st.same, by
    have e : st.line ++ putL st.line [] = st.line := by
      rw [putL]; split <;> simp [lineV]
    rw [e]; rfl⟩
  | c :: a, b, i, st, h, ho => by
    have hlen : (st.line ++ [fput st.line c]).length = st.line.length + 1 := by simp
    have hne : ¬ (st.line ++ [fput st.line c]).length = W := by simp at h hlen ⊢; omega
    have e1 : (fstep s W i c st).out = st.out := by
      show (if (st.line ++ [fput st.line c]).length = W then st.out ++ [st.line ++ [fput st.line c]] else st.out) = _
      rw [if_neg hne]
    have e2 : (fstep s W i c st).line = st.line ++ [fput st.line c] := by
      show (if (st.line ++ [fput st.line c]).length = W then [] else st.line ++ [fput st.line c]) = _
      rw [if_neg hne]
    obtain ⟨k, m, hk⟩ := frun_part s W L a b (i + 1) (fstep s W i c st) (by rw [e2, hlen]; simp at h; omega) (by rw [e1]; exact ho)
    refine ⟨k, m, ?_⟩
    rw [List.cons_append, frun, if_pos ho, hk, e1, e2, fput_put, List.length_cons, show i + (a.length + 1) = i + 1 + a.length by omega]
theorem frun_full (s : List UInt8) (W L : Nat) (hW : 1 ≤ W) (a b : List UInt8) (i : Nat) (out : List (List UInt8)) (k0 : Nat) (m0 : Bool) (ha : a.length = W) (ho : out.length < L) :
    ∃ k m, frun s W L i (a ++ b) { out := out, kept := k0, same := m0, line := [] } = frun s W L (i + W) b { out := out ++ [lineV a], kept := k, same := m, line := [] } := by
  obtain ⟨a0, c, rfl⟩ : ∃ a0 c, a = a0 ++ [c] := by
    rcases List.eq_nil_or_concat a with h | ⟨a0, c, h⟩
    · subst h; simp at ha; omega
    · exact ⟨a0, c, by rw [h, List.concat_eq_append]⟩
  simp at ha
  obtain ⟨k, m, hk⟩ := frun_part s W L a0 ([c] ++ b) i { out := out, kept := k0, same := m0, line := [] } (by simp; omega) ho
  rw [List.append_assoc, hk]
  simp only [List.nil_append]
  have hl : putL [] a0 ++ [fput (putL [] a0) c] = lineV (a0 ++ [c]) := by
    rw [putL, if_pos rfl]
    cases a0 with
    | nil => simp only [lineV, List.nil_append, fput]; by_cases hc : c = 58 ∨ c = 45 <;> simp [hc]
    | cons d a0 => simp only [lineV, fput]; simp
  have hf : (putL [] a0 ++ [fput (putL [] a0) c]).length = W := by rw [hl, lineV_len]; simp; omega
  refine ⟨(fstep s W (i + a0.length) c { out := out, kept := k, same := m, line := putL [] a0 }).kept, (fstep s W (i + a0.length) c { out := out, kept := k, same := m, line := putL [] a0 }).same, ?_⟩
  have e1 : (fstep s W (i + a0.length) c { out := out, kept := k, same := m, line := putL [] a0 }).out = out ++ [lineV (a0 ++ [c])] := by
    show (if (putL [] a0 ++ [fput (putL [] a0) c]).length = W then out ++ [putL [] a0 ++ [fput (putL [] a0) c]] else out) = _
    rw [if_pos hf, hl]
  have e2 : (fstep s W (i + a0.length) c  { out := out, kept := k, same := m, line := putL [] a0 }).line = [] := by
    show (if (putL [] a0 ++ [fput (putL [] a0) c]).length = W then [] else putL [] a0 ++ [fput (putL [] a0) c]) = _
    rw [if_pos hf]
  rw [List.singleton_append, frun, if_pos ho]
  rw [show i + a0.length + 1 = i + W by omega]
  congr 1
  generalize fstep s W (i + a0.length) c { out := out, kept := k, same := m, line := putL [] a0 } = st at e1 e2
  obtain ⟨o, k1, m1, l⟩ := st
  simp only at e1 e2
  subst e1; subst e2
  rfl
/-- The lines that are told of a state. -/
def outL (st : FSt) : List (List UInt8) := if st.line = [] then st.out else st.out ++ [st.line]
theorem frun_lines (s : List UInt8) (W L : Nat) (hW : 1 ≤ W) : ∀ (M : Nat) (r : List UInt8) (i : Nat) (out : List (List UInt8)) (k0 : Nat) (m0 : Bool), out.length + M = L →
    outL (frun s W L i r { out := out, kept := k0, same := m0, line := [] }) = out ++ (chunks W M r).map lineV
  | 0, r, i, out, k0, m0, h => by
    have e : frun s W L i r { out := out, kept := k0, same := m0, line := [] } = { out := out, kept := k0, same := m0, line := [] } := by
      cases r with
      | nil => rw [frun]
      | cons c r => rw [frun, if_neg (by simp; omega)]
    rw [e, outL, if_pos rfl, chunks]; simp
  | M + 1, r, i, out, k0, m0, h => by
    by_cases hr : r = []
    · subst hr; rw [frun, outL, if_pos rfl, chunks, if_pos rfl]; simp
    · rw [chunks, if_neg hr]
      by_cases hl : W ≤ r.length
      · obtain ⟨k, m, hk⟩ := frun_full s W L hW (r.take W) (r.drop W) i out k0 m0 (by simp; omega) (by omega)
        rw [List.take_append_drop] at hk
        rw [hk, frun_lines s W L hW M (r.drop W) (i + W) (out ++ [lineV (r.take W)]) k m (by simp; omega)]
        simp
      · obtain ⟨k, m, hk⟩ := frun_part s W L r [] i { out := out, kept := k0, same := m0, line := [] } (by simp; omega) (by simp; omega)
        rw [List.append_nil] at hk
        rw [hk, frun]
        simp only [List.nil_append]
        have hp : putL [] r = lineV r := by rw [putL, if_pos rfl]
        have hne : lineV r ≠ [] := by intro e; have := lineV_len r; rw [e] at this; simp at this; exact hr (List.eq_nil_of_length_eq_zero this.symm)
        rw [hp, outL, if_neg hne, List.take_of_length_le (by omega), List.drop_of_length_le (by omega)]
        have hc : chunks W M [] = [] := by cases M <;> simp [chunks]
        rw [hc]; rfl
theorem fold_chunks (s : List UInt8) (W L : Nat) (hW : 1 ≤ W) : foldV s W L = (chunks W L (subL s)).map lineV := by
  have h := frun_lines s W L hW L (subL s) 0 [] 0 true (by simp)
  rw [List.nil_append] at h
  exact h

/-- How many bytes two texts begin with that are the same. -/
def cpl : List UInt8 → List UInt8 → Nat
  | a :: l, b :: m => if a = b then cpl l m + 1 else 0
  | _, _ => 0
theorem cpl_le : ∀ (a b : List UInt8), cpl a b ≤ a.length ∧ cpl a b ≤ b.length
  | [], _ => ⟨Nat.le_refl _, Nat.zero_le _⟩
  | _ :: _, [] => ⟨Nat.zero_le _, Nat.zero_le _⟩
  | a :: l, b :: m => by
    have h := cpl_le l m
    rw [cpl]
    split
    · simp; omega
    · exact ⟨Nat.zero_le _, Nat.zero_le _⟩
theorem cpl_snoc : ∀ (a b : List UInt8) (q : UInt8), cpl a (b ++ [q]) = if cpl a b = b.length ∧ b.length < a.length ∧ a.getD b.length 0 = q then cpl a b + 1 else cpl a b
  | [], b, q => by cases b <;> simp [cpl]
  | a :: l, [], q => by
    simp only [List.nil_append, cpl, List.length_nil, List.length_cons]
    by_cases h : a = q
    · rw [if_pos h, if_pos ⟨trivial, by omega, by simpa using h⟩]
      try (cases l <;> rfl)
    · rw [if_neg h, if_neg (fun x => h (by simpa using x.2.2))]
  | a :: l, b :: m, q => by
    rw [List.cons_append, cpl, cpl]
    by_cases h : a = b
    · rw [if_pos h, if_pos h, cpl_snoc l m q]
      simp only [List.length_cons, List.getD_cons_succ, Nat.add_lt_add_iff_right, Nat.add_right_cancel_iff]
      split <;> rfl
    · rw [if_neg h, if_neg h, if_neg (fun x => by simp at x)]
/-- What is kept of a text is what its lines begin with. -/
def KInv (s : List UInt8) (i : Nat) (st : FSt) : Prop := (st.out.flatten ++ st.line).length = i ∧ st.kept = cpl s (st.out.flatten ++ st.line) ∧ (st.same = true ↔ cpl s (st.out.flatten ++ st.line) = i)
theorem kinv_step {s : List UInt8} {W i : Nat} {c : UInt8} {st : FSt} (h : KInv s i st) : KInv s (i + 1) (fstep s W i c st) := by
  obtain ⟨h1, h2, h3⟩ := h
  have ht : (fstep s W i c st).out.flatten ++ (fstep s W i c st).line = (st.out.flatten ++ st.line) ++ [fput st.line c] := by
    simp only [fstep]
    split <;> simp
  rw [KInv, ht, cpl_snoc, h1]
  refine ⟨by rw [List.length_append, h1]; rfl, ?_⟩
  have hk : (fstep s W i c st).kept = if fsame s i (fput st.line c) st.same = true then st.kept + 1 else st.kept := by simp only [fstep]
  have hm : (fstep s W i c st).same = fsame s i (fput st.line c) st.same := by simp only [fstep]
  have hs : fsame s i (fput st.line c) st.same = true ↔ (cpl s (st.out.flatten ++ st.line) = i ∧ i < s.length ∧ s.getD i 0 = fput st.line c) := by
    rw [fsame, Bool.and_eq_true, Bool.and_eq_true, decide_eq_true_eq, beq_iff_eq, h3]
  rw [hk, hm, h2]
  by_cases hc : cpl s (st.out.flatten ++ st.line) = i ∧ i < s.length ∧ s.getD i 0 = fput st.line c
  · rw [if_pos (hs.2 hc), if_pos hc]
    exact ⟨rfl, fun _ => by omega, fun _ => hs.2 hc⟩
  · rw [if_neg (fun x => hc (hs.1 x)), if_neg hc]
    refine ⟨rfl, fun h => (hc (hs.1 h)).elim, fun h => ?_⟩
    have := (cpl_le s (st.out.flatten ++ st.line)).2
    omega
theorem kinv_run {s : List UInt8} {W L : Nat} : ∀ (r : List UInt8) (i : Nat) (st : FSt), KInv s i st → (frun s W L i r st).kept = cpl s ((frun s W L i r st).out.flatten ++ (frun s W L i r st).line)
  | [], i, st, h => by rw [frun]; exact h.2.1
  | c :: r, i, st, h => by
    rw [frun]
    split
    · exact kinv_run r (i + 1) _ (kinv_step h)
    · exact h.2.1
theorem kept_cpl (s : List UInt8) (W L : Nat) : keptV s W L = cpl s (foldV s W L).flatten := by
  have h := kinv_run (s := s) (W := W) (L := L) (subL s) 0 finit ⟨rfl, by cases s <;> rfl, fun _ => by cases s <;> rfl, fun _ => rfl⟩
  have e : (foldV s W L).flatten = (fend s W L).out.flatten ++ (fend s W L).line := by
    rcases foldV_two s W L with ⟨hn, e⟩ | ⟨_, e⟩
    · rw [e, hn, List.append_nil]
    · rw [e]; simp
  rw [e]
  exact h
end Go.Proofs.Ythmfojkklianlaa
