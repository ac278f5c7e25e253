/-
  What is of X is kept: substituted texts, folded lines, as plain lists.
-/
import Derived.Test.YthmfojkklianlaaChD
namespace Go.Proofs.Ythmfojkklianlaa

theorem inX_low {c : UInt8} (h : inX c = true) : c.toNat < 128 := by
  have key : ∀ n : Fin 256, inX (UInt8.ofNat n.1) = true → n.1 < 128 := by decide +kernel
  have := key ⟨c.toNat, c.toNat_lt⟩ (by simpa using h)
  exact this
theorem inX_dot : inX 46 = true := by decide
theorem subC_in (p : List UInt8) : inX (subC p) = true := by
  match p with
  | [] => exact inX_dot
  | [c] =>
    show inX (if inX c then c else 46) = true
    by_cases h : inX c = true
    · rw [if_pos h]; exact h
    · rw [if_neg h]; exact inX_dot
  | _ :: _ :: _ => exact inX_dot
theorem sub_in (l : List UInt8) : (subL l).all inX = true := by
  rw [List.all_eq_true]
  intro c hc
  obtain ⟨p, _, rfl⟩ := List.mem_map.1 hc
  exact subC_in p
theorem wd_low {c : UInt8} (l : List UInt8) (h : c.toNat < 128) : wd (c :: l) = 1 := by
  rw [wd]
  unfold Lib.decodeN
  rw [if_pos (by simpa using h)]
theorem sub_same : ∀ (l : List UInt8), l.all inX = true → subL l = l
  | [], _ => rfl
  | c :: l, h => by
    simp only [List.all_cons, Bool.and_eq_true] at h
    rw [subL, charsL_cons (by simp), wd_low l (inX_low h.1), List.map_cons]
    have e : (c :: l).drop 1 = l := rfl
    have e2 : (c :: l).take 1 = [c] := rfl
    rw [e, e2]
    have ih := sub_same l h.2
    rw [subL] at ih
    rw [ih]
    show (if inX c then c else 46) :: l = c :: l
    rw [if_pos h.1]
theorem chk_ok {l : List UInt8} (h : l.all inX = true) : chkV 88 l = (l.length, 0) := by
  have hf : firstNo 88 l = l.length := firstNo_eq (by rw [List.take_length]; exact h) (Nat.le_refl _) (.inl rfl)
  rw [chkV, if_pos (.inl rfl), hf, if_pos rfl]
theorem chk_no {l : List UInt8} (h : l.all inX = false) : (chkV 88 l).2 = 15 := by
  rw [chkV, if_pos (.inl rfl)]
  dsimp only
  rw [if_neg]
  intro hf
  have e : l.takeWhile (inV 88) = l := (List.takeWhile_prefix (inV 88) (l := l)).eq_of_length hf
  have h2 : l.all inX = true := by
    have h3 := List.all_takeWhile (p := inV 88) (l := l)
    rw [e] at h3
    exact h3
  rw [h2] at h; cases h

/-- A line that is told: not empty, not too long, no : and no - ahead. -/
def LineOk (W : Nat) (p : List UInt8) : Prop := p ≠ [] ∧ p.length ≤ W ∧ p.head? ≠ some 58 ∧ p.head? ≠ some 45
theorem fput_no (line : List UInt8) (c : UInt8) (h : line = []) : fput line c ≠ 58 ∧ fput line c ≠ 45 := by
  rw [fput]
  by_cases hc : c = 58 ∨ c = 45
  · rw [if_pos ⟨h, hc⟩]; decide
  · rw [if_neg (fun x => hc x.2)]
    exact ⟨fun e => hc (.inl e), fun e => hc (.inr e)⟩
/-- What lines that are being folded are. -/
def FInv (W L : Nat) (st : FSt) : Prop := (∀ p ∈ st.out, LineOk W p ∧ p.length = W) ∧ (st.out.length ≤ L ∧ (st.out.length = L → st.line = [])) ∧ st.line.length < W ∧ st.line.head? ≠ some 58 ∧ st.line.head? ≠ some 45
theorem finv_step {s : List UInt8} {W L i : Nat} {c : UInt8} {st : FSt} (hW : 1 ≤ W) (h : FInv W L st) (hl : st.out.length < L) : FInv W L (fstep s W i c st) := by
  obtain ⟨h1, h2, h3, h4, h5⟩ := h
  have hh : (st.line ++ [fput st.line c]).head? ≠ some 58 ∧ (st.line ++ [fput st.line c]).head? ≠ some 45 := by
    cases hn : st.line with
    | nil =>
      have := fput_no st.line c hn
      rw [hn] at this
      simpa using this
    | cons d l =>
      rw [hn] at h4 h5
      exact ⟨h4, h5⟩
  simp only [fstep]
  by_cases hf : (st.line ++ [fput st.line c]).length = W
  · rw [if_pos hf, if_pos hf]
    refine ⟨?_, ⟨by simp; omega, fun _ => rfl⟩, by simp; omega, by simp, by simp⟩
    intro p hp
    rcases List.mem_append.1 hp with hp | hp
    · exact h1 p hp
    · obtain rfl : p = st.line ++ [fput st.line c] := by simpa using hp
      exact ⟨⟨by simp, by omega, hh.1, hh.2⟩, hf⟩
  · rw [if_neg hf, if_neg hf]
    refine ⟨h1, ⟨h2.1, fun e => by dsimp only at e; omega⟩, ?_, hh.1, hh.2⟩
    simp only [List.length_append, List.length_cons, List.length_nil] at hf ⊢
    omega
theorem finv_run {s : List UInt8} {W L : Nat} (hW : 1 ≤ W) : ∀ (r : List UInt8) (i : Nat) (st : FSt), FInv W L st → FInv W L (frun s W L i r st)
  | [], _, _, h => by rw [frun]; exact h
  | c :: r, i, st, h => by
    rw [frun]
    split
    · rename_i hl
      exact finv_run hW r (i + 1) _ (finv_step hW h hl)
    · exact h
theorem kept_run {s : List UInt8} {W L : Nat} : ∀ (r : List UInt8) (i : Nat) (st : FSt), st.kept ≤ i → (frun s W L i r st).kept ≤ i + r.length
  | [], _, _, h => by rw [frun]; simpa using h
  | c :: r, i, st, h => by
    rw [frun]
    split
    · have h2 : (fstep s W i c st).kept ≤ i + 1 := by
        simp only [fstep]
        split <;> omega
      have := kept_run (s := s) (W := W) (L := L) r (i + 1) _ h2
      simp only [List.length_cons]; omega
    · simp only [List.length_cons]; omega
/-- A line, by its place. -/
theorem fold_lines {s : List UInt8} {W L : Nat} (hW : 1 ≤ W) : (foldV s W L).length ≤ L ∧ (∀ j (h : j < (foldV s W L).length), LineOk W (foldV s W L)[j] ∧ (j + 1 < (foldV s W L).length → (foldV s W L)[j].length = W)) := by
  have hi : FInv W L (fend s W L) := finv_run hW _ _ _ ⟨by simp [finit], ⟨by simp [finit], fun _ => rfl⟩, by simp [finit]; omega, by simp [finit], by simp [finit]⟩
  obtain ⟨h1, h2, h3, h4, h5⟩ := hi
  rcases foldV_two s W L with ⟨_, e⟩ | ⟨hn, e⟩
  · rw [e]
    refine ⟨by omega, fun j h => ?_⟩
    have := h1 _ (List.getElem_mem h)
    exact ⟨this.1, fun _ => this.2⟩
  · rw [e]
    refine ⟨by have := h2.2; simp only [List.length_append, List.length_cons, List.length_nil]; have : (fend s W L).out.length ≠ L := fun e => hn (h2.2 e); omega, fun j h => ?_⟩
    by_cases hj : j < (fend s W L).out.length
    · rw [List.getElem_append_left hj]
      have := h1 _ (List.getElem_mem hj)
      exact ⟨this.1, fun _ => this.2⟩
    · have hj2 : j = (fend s W L).out.length := by simp at h; omega
      subst hj2
      rw [List.getElem_append_right (Nat.le_refl _)]
      simp only [Nat.sub_self, List.getElem_cons_zero]
      exact ⟨⟨hn, by omega, h4, h5⟩, fun h => by simp at h⟩
theorem kept_le {s : List UInt8} {W L : Nat} : keptV s W L ≤ s.length := by
  have h := kept_run (s := s) (W := W) (L := L) (subL s) 0 finit (Nat.le_refl _)
  have hc : (subL s).length ≤ s.length := by rw [subL, List.length_map]; exact charsL_len _ s (Nat.le_refl _)
  have e : keptV s W L = (frun s W L 0 (subL s) finit).kept := rfl
  omega

/-- A plain text: all of it is in the lines. -/
theorem plain_run {s : List UInt8} {W L : Nat} (hW : 1 ≤ W) (hp : ∀ c ∈ s, c ≠ 58 ∧ c ≠ 45) (hl : s.length ≤ W * L) : ∀ (r : List UInt8) (pre : List UInt8) (st : FSt), s = pre ++ r → st.out.flatten ++ st.line = pre → st.kept = pre.length → st.same = true →
    st.line.length < W → W * st.out.length + st.line.length = pre.length →
    (frun s W L pre.length r st).out.flatten ++ (frun s W L pre.length r st).line = s ∧ (frun s W L pre.length r st).kept = s.length
  | [], pre, st, hs, h1, h2, _, _, _ => by
    rw [frun]
    rw [List.append_nil] at hs
    exact ⟨by rw [h1, hs], by rw [h2, hs]⟩
  | c :: r, pre, st, hs, h1, h2, h3, h4, h5 => by
    have hlen : s.length = pre.length + (r.length + 1) := by rw [hs]; simp
    have hlt : st.out.length < L := by
      rcases Nat.lt_or_ge st.out.length L with h | h
      · exact h
      · have := Nat.mul_le_mul_left W h
        omega
    have hc := hp c (by rw [hs]; simp)
    have e1 : fput st.line c = c := by rw [fput, if_neg (fun x => x.2.elim hc.1 hc.2)]
    have e2 : fsame s pre.length c true = true := by
      rw [fsame, decide_eq_true (by omega)]
      have : s.getD pre.length 0 = c := by rw [hs, List.getD_eq_getElem?_getD, List.getElem?_append_right (Nat.le_refl _)]; simp
      rw [this]
      simp
    have est : fstep s W pre.length c st = { out := if st.line.length + 1 = W then st.out ++ [st.line ++ [c]] else st.out, kept := st.kept + 1, same := true, line := if st.line.length + 1 = W then [] else st.line ++ [c] } := by
      simp only [fstep, e1, h3, e2, if_true, List.length_append, List.length_cons, List.length_nil, Nat.zero_add]
    rw [frun, if_pos hlt, est]
    have ep : (pre ++ [c]).length = pre.length + 1 := by simp
    rw [← ep]
    by_cases hf : st.line.length + 1 = W
    · rw [if_pos hf, if_pos hf]
      refine plain_run hW hp hl r (pre ++ [c]) _ (by rw [hs]; simp) ?_ (by dsimp only; rw [h2]; simp) rfl (by simp; omega) ?_
      · dsimp only
        rw [← h1]; simp
      · dsimp only
        simp only [List.length_append, List.length_cons, List.length_nil, Nat.mul_add]
        omega
    · rw [if_neg hf, if_neg hf]
      refine plain_run hW hp hl r (pre ++ [c]) _ (by rw [hs]; simp) ?_ (by dsimp only; rw [h2]; simp) rfl (by simp; omega) ?_
      · dsimp only
        rw [← h1]; simp
      · dsimp only
        simp only [List.length_append, List.length_cons, List.length_nil]
        omega
theorem plain_fold {s : List UInt8} {W L : Nat} (hW : 1 ≤ W) (hx : s.all inX = true) (hp : ∀ c ∈ s, c ≠ 58 ∧ c ≠ 45) (hl : s.length ≤ W * L) : (foldV s W L).flatten = s ∧ keptV s W L = s.length := by
  have h := plain_run hW hp hl s [] finit rfl rfl rfl rfl (by show 0 < W; omega) (by simp [finit])
  have e : fend s W L = frun s W L ([] : List UInt8).length s finit := by rw [fend, sub_same s hx]; rfl
  rw [← e] at h
  refine ⟨?_, h.2⟩
  rcases foldV_two s W L with ⟨hn, e2⟩ | ⟨_, e2⟩
  · rw [e2]
    have := h.1
    rw [hn, List.append_nil] at this
    exact this
  · rw [e2, List.flatten_append]
    simpa using h.1
end Go.Proofs.Ythmfojkklianlaa
