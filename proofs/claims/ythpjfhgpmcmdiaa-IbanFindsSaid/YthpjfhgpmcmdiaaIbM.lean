/-
  97 is a prime: one fault in an account number is found; what is made is one.
-/
import Derived.Test.YthpjfhgpmcmdiaaIbN
namespace Go.Proofs.Ythpjfhgpmcmdiaa

/-- The number that digits say. -/
def numD (ds : List Nat) : Nat := ds.foldl (fun n d => 10 * n + d) 0
theorem numD_snoc (ds : List Nat) (d : Nat) : numD (ds ++ [d]) = 10 * numD ds + d := by simp [numD]
theorem numD_append (a b : List Nat) : numD (a ++ b) = numD a * 10 ^ b.length + numD b := by
  suffices h : ∀ n (b : List Nat), b.length = n → numD (a ++ b) = numD a * 10 ^ n + numD b by exact h _ b rfl
  intro n
  induction n with
  | zero => intro b hb; obtain rfl := List.eq_nil_of_length_eq_zero hb; simp [numD]
  | succ n ih =>
    intro b hb
    rcases List.eq_nil_or_concat b with rfl | ⟨c, d, rfl⟩
    · cases hb
    · rw [List.concat_eq_append] at hb ⊢
      have hc : c.length = n := by simpa using hb
      rw [← List.append_assoc, numD_snoc, numD_snoc, ih c hc, Nat.pow_succ, ← Nat.mul_assoc]
      omega
theorem horn_num (ds : List Nat) : horn ds = numD ds % 97 := by
  suffices h : ∀ n (ds : List Nat), ds.length = n → horn ds = numD ds % 97 by exact h _ ds rfl
  intro n
  induction n with
  | zero => intro ds h; obtain rfl := List.eq_nil_of_length_eq_zero h; rfl
  | succ n ih =>
    intro ds h
    rcases List.eq_nil_or_concat ds with rfl | ⟨c, d, rfl⟩
    · cases h
    · rw [List.concat_eq_append] at h ⊢
      have hc : c.length = n := by simpa using h
      rw [horn_snoc, numD_snoc, ih c hc]
      omega
theorem ten_inv (k : Nat) : ∀ x y : Nat, (x * 10 ^ k) % 97 = (y * 10 ^ k) % 97 → x % 97 = y % 97 := by
  induction k with
  | zero => intro x y h; simpa using h
  | succ k ih =>
    intro x y h
    rw [Nat.pow_succ, ← Nat.mul_assoc, ← Nat.mul_assoc] at h
    apply ih
    omega
/-- Digits that are changed for as many others show, unless they are alike by 97. -/
theorem horn_fault {a x y b : List Nat} (hl : x.length = y.length) (h : horn (a ++ (x ++ b)) = horn (a ++ (y ++ b))) : numD x % 97 = numD y % 97 := by
  rw [horn_num, horn_num, ← List.append_assoc, ← List.append_assoc, numD_append (a ++ x), numD_append (a ++ y), numD_append a x, numD_append a y, ← hl] at h
  have h2 : ((numD a * 10 ^ x.length + numD x) * 10 ^ b.length) % 97 = ((numD a * 10 ^ x.length + numD y) * 10 ^ b.length) % 97 := by omega
  have h3 := ten_inv _ _ _ h2
  omega

theorem digsOf_cons (c : UInt8) (l : List UInt8) : digsOf (c :: l) = ibVal c ++ digsOf l := by simp [digsOf]
theorem digsOf_append (a b : List UInt8) : digsOf (a ++ b) = digsOf a ++ digsOf b := by simp [digsOf]
theorem num_dg {c : UInt8} (h : ibDg c = true) : ibVal c = [c.toNat - 48] ∧ numD (ibVal c) = c.toNat - 48 ∧ 48 ≤ c.toNat ∧ c.toNat ≤ 57 := by
  have h' := h
  simp only [ibDg, Bool.and_eq_true, decide_eq_true_eq] at h'
  have e : ibVal c = [c.toNat - 48] := by rw [ibVal, if_pos h]
  exact ⟨e, by rw [e]; simp [numD], h'⟩
theorem num_lt {c : UInt8} (h : ibLt c = true) : ibVal c = [(c.toNat - 55) / 10, (c.toNat - 55) % 10] ∧ numD (ibVal c) = c.toNat - 55 ∧ 65 ≤ c.toNat ∧ c.toNat ≤ 90 := by
  simp only [ibLt, Bool.and_eq_true, decide_eq_true_eq] at h
  have hd : ¬ ibDg c = true := by simp only [ibDg, Bool.and_eq_true, decide_eq_true_eq]; omega
  have e : ibVal c = [(c.toNat - 55) / 10, (c.toNat - 55) % 10] := by rw [ibVal, if_neg hd]
  refine ⟨e, ?_, h⟩
  rw [e]
  simp only [numD, List.foldl_cons, List.foldl_nil]
  omega

/-- A text, split at a place behind the country. -/
theorem rot_at (l : List UInt8) (i : Nat) (hi : i < l.length) : ∃ p q, rot l = p ++ l[i] :: q ∧ ∀ c, rot (l.set i c) = p ++ c :: q := by
  have hl : l = l.take i ++ l[i] :: l.drop (i + 1) := by rw [List.getElem_cons_drop, List.take_append_drop]
  by_cases h : 4 ≤ i
  · refine ⟨(l.take i).drop 4, l.drop (i + 1) ++ l.take 4, ?_, fun c => ?_⟩
    · have e1 : l.drop 4 = (l.take i).drop 4 ++ l[i] :: l.drop (i + 1) := by
        conv => lhs; rw [hl]
        rw [List.drop_append_of_le_length (by simp; omega)]
      rw [rot, e1, List.append_assoc]
      rfl
    · have e1 : l.set i c = l.take i ++ c :: l.drop (i + 1) := List.set_eq_take_append_cons_drop.trans (if_pos hi)
      rw [rot, e1, List.drop_append_of_le_length (by simp; omega), List.take_append_of_le_length (by simp; omega), List.take_take, Nat.min_eq_left h]
      simp
  · have h : i < 4 := by omega
    refine ⟨l.drop 4 ++ l.take i, (l.drop (i + 1)).take (3 - i), ?_, fun c => ?_⟩
    · have e1 : l.take 4 = l.take i ++ l[i] :: (l.drop (i + 1)).take (3 - i) := by
        conv => lhs; rw [hl]
        rw [List.take_append, List.take_of_length_le (by simp; omega)]
        congr 1
        have : 4 - (l.take i).length = (3 - i) + 1 := by simp; omega
        rw [this, List.take_succ_cons]
      rw [rot, e1]
      simp
    · have e1 : l.set i c = l.take i ++ c :: l.drop (i + 1) := List.set_eq_take_append_cons_drop.trans (if_pos hi)
      have e2 : (l.set i c).take 4 = l.take i ++ c :: (l.drop (i + 1)).take (3 - i) := by
        rw [e1, List.take_append, List.take_of_length_le (by simp; omega)]
        congr 1
        have : 4 - (l.take i).length = (3 - i) + 1 := by simp; omega
        rw [this, List.take_succ_cons]
      have e3 : (l.set i c).drop 4 = l.drop 4 := by
        rw [List.drop_set, if_pos h]
      rw [rot, e2, e3]
      simp

theorem check_rest {l : List UInt8} (h : checkV l = 0) : restV l = (1, true) := by
  rw [checkV] at h
  by_cases hc : 4 ≤ l.length ∧ ibDg (l.getD 2 0) = true ∧ ibDg (l.getD 3 0) = true ∧ lenV (l.take 2) = (l.length, true) ∧ restV l = (1, true)
  · exact hc.2.2.2.2
  · rw [if_neg hc] at h
    cases h
theorem check_two (l : List UInt8) : checkV l = 0 ∨ checkV l = 13 := by
  rw [checkV]
  split
  · exact .inl rfl
  · exact .inr rfl
theorem rest_horn {l : List UInt8} {r : Nat} (h : restV l = (r, true)) : horn (digsOf (rot l)) = r ∧ 4 ≤ l.length ∧ l.all ibOk = true := by
  rw [restV] at h
  by_cases hc : 4 ≤ l.length ∧ l.all ibOk = true
  · rw [if_pos hc] at h
    exact ⟨congrArg Prod.fst h, hc⟩
  · rw [if_neg hc] at h
    cases h

/-- One letter or digit changed for another one of its kind is found. -/
theorem find_one {l : List UInt8} {i : Nat} (hi : i < l.length) {c : UInt8} (h : restV l = (1, true)) (hk : ibDg l[i] = true ∧ ibDg c = true ∨ ibLt l[i] = true ∧ ibLt c = true) (hc : c ≠ l[i]) : checkV (l.set i c) = 13 := by
  rcases check_two (l.set i c) with h0 | h0
  · obtain ⟨p, q, e1, e2⟩ := rot_at l i hi
    have h1 := (rest_horn h).1
    have h2 := (rest_horn (check_rest h0)).1
    rw [e1, digsOf_append, digsOf_cons] at h1
    rw [e2, digsOf_append, digsOf_cons] at h2
    refine absurd ?_ hc
    rcases hk with ⟨ha, hb⟩ | ⟨ha, hb⟩
    · obtain ⟨v1, n1, a1, a2⟩ := num_dg ha
      obtain ⟨v2, n2, b1, b2⟩ := num_dg hb
      have := horn_fault (by rw [v1, v2]; rfl) (h1.trans h2.symm)
      rw [n1, n2] at this
      exact UInt8.toNat_inj.1 (by omega)
    · obtain ⟨v1, n1, a1, a2⟩ := num_lt ha
      obtain ⟨v2, n2, b1, b2⟩ := num_lt hb
      have := horn_fault (by rw [v1, v2]; rfl) (h1.trans h2.symm)
      rw [n1, n2] at this
      exact UInt8.toNat_inj.1 (by omega)
  · exact h0

/-- Two neighbours behind the first four. -/
theorem rot_swap (l : List UInt8) (k : Nat) (h4 : 4 ≤ k) (hk : k + 1 < l.length) : ∃ p q, rot l = p ++ (l[k]'(by omega)) :: l[k + 1] :: q ∧ rot ((l.set k l[k + 1]).set (k + 1) (l[k]'(by omega))) = p ++ l[k + 1] :: (l[k]'(by omega)) :: q := by
  have hk0 : k < l.length := by omega
  refine ⟨(l.take k).drop 4, l.drop (k + 2) ++ l.take 4, ?_, ?_⟩
  · have hl : l = l.take k ++ l[k] :: l[k + 1] :: l.drop (k + 2) := by rw [List.getElem_cons_drop, List.getElem_cons_drop, List.take_append_drop]
    have e1 : l.drop 4 = (l.take k).drop 4 ++ l[k] :: l[k + 1] :: l.drop (k + 2) := by
      conv => lhs; rw [hl]
      rw [List.drop_append_of_le_length (by simp; omega)]
    rw [rot, e1, List.append_assoc]
    rfl
  · have e0 : (l.set k l[k + 1]).set (k + 1) l[k] = l.take k ++ l[k + 1] :: l[k] :: l.drop (k + 2) := by
      rw [List.set_eq_take_append_cons_drop.trans (if_pos hk0)]
      rw [List.set_append_right _ _ (by simp; omega)]
      have e : k + 1 - (l.take k).length = 1 := by simp; omega
      rw [e, List.set_cons_succ, List.drop_eq_getElem_cons hk, List.set_cons_zero]
    rw [rot, e0, List.drop_append_of_le_length (by simp; omega), List.take_append_of_le_length (by simp; omega), List.take_take, Nat.min_eq_left h4]
    simp
/-- Two neighbours, unlike digits both, changed with one another are found. -/
theorem find_two {l : List UInt8} {k : Nat} (h4 : 4 ≤ k) (hk : k + 1 < l.length) (h : restV l = (1, true)) (ha : ibDg (l[k]'(by omega)) = true) (hb : ibDg l[k + 1] = true) (hne : (l[k]'(by omega)) ≠ l[k + 1]) :
    checkV ((l.set k l[k + 1]).set (k + 1) (l[k]'(by omega))) = 13 := by
  have hk0 : k < l.length := by omega
  rcases check_two ((l.set k l[k + 1]).set (k + 1) l[k]) with h0 | h0
  · obtain ⟨p, q, e1, e2⟩ := rot_swap l k h4 hk
    have h1 := (rest_horn h).1
    have h2 := (rest_horn (check_rest h0)).1
    rw [e1, digsOf_append, digsOf_cons, digsOf_cons, ← List.append_assoc (ibVal l[k])] at h1
    rw [e2, digsOf_append, digsOf_cons, digsOf_cons, ← List.append_assoc (ibVal l[k + 1])] at h2
    refine absurd ?_ hne
    obtain ⟨v1, n1, a1, a2⟩ := num_dg ha
    obtain ⟨v2, n2, b1, b2⟩ := num_dg hb
    have := horn_fault (by rw [v1, v2]; rfl) (h1.trans h2.symm)
    rw [numD_append, numD_append, n1, n2, v1, v2] at this
    simp only [List.length_cons, List.length_nil, Nat.zero_add, Nat.pow_one] at this
    exact UInt8.toNat_inj.1 (by omega)
  · exact h0

/-- What is made is one. -/
theorem made_rest {co re : List UInt8} (hc : co.length = 2) {r : Nat} (h : restV (co ++ ([48, 48] ++ re)) = (r, true)) {x y : UInt8} (hx : x.toNat = 48 + (98 - r) / 10) (hy : y.toNat = 48 + (98 - r) % 10) :
    restV (co ++ ([x, y] ++ re)) = (1, true) := by
  obtain ⟨h1, h2, h3⟩ := rest_horn h
  have hr : r < 97 := by rw [← h1]; exact horn_lt _
  have hxd : ibDg x = true := by simp only [ibDg, Bool.and_eq_true, decide_eq_true_eq]; omega
  have hyd : ibDg y = true := by simp only [ibDg, Bool.and_eq_true, decide_eq_true_eq]; omega
  have hrot : ∀ a b : UInt8, rot (co ++ ([a, b] ++ re)) = (re ++ co) ++ [a, b] := by
    intro a b
    rw [rot, ← List.append_assoc]
    have e : (co ++ [a, b]).length = 4 := by simp [hc]
    rw [List.drop_append_of_le_length (by omega), List.take_append_of_le_length (by omega), List.drop_of_length_le (by omega), List.take_of_length_le (by omega)]
    simp
  rw [hrot, digsOf_append, horn_num, numD_append] at h1
  have e48 : digsOf [48, 48] = [0, 0] := by decide
  rw [e48] at h1
  have e00 : numD [0, 0] = 0 := rfl
  rw [e00] at h1
  simp only [List.length_cons, List.length_nil, Nat.zero_add, Nat.reduceAdd, Nat.reducePow, Nat.add_zero] at h1
  obtain ⟨vx, nx, _⟩ := num_dg hxd
  obtain ⟨vy, ny, _⟩ := num_dg hyd
  have exy : digsOf [x, y] = [x.toNat - 48, y.toNat - 48] := by rw [digsOf_cons, digsOf_cons, vx, vy]; rfl
  have hall : (co ++ ([x, y] ++ re)).all ibOk = true := by
    simp only [List.all_append, Bool.and_eq_true] at h3 ⊢
    refine ⟨h3.1, ?_, h3.2.2⟩
    simp [ibOk, hxd, hyd]
  rw [restV, if_pos ⟨by simp [hc]; omega, hall⟩, hrot, digsOf_append, horn_num, numD_append, exy]
  have enum : numD [x.toNat - 48, y.toNat - 48] = 98 - r := by
    simp only [numD, List.foldl_cons, List.foldl_nil]
    omega
  rw [enum]
  simp only [List.length_cons, List.length_nil, Nat.zero_add, Nat.reduceAdd, Nat.reducePow]
  have : (numD (digsOf (re ++ co)) * 100 + (98 - r)) % 97 = 1 := by omega
  rw [this]
end Go.Proofs.Ythpjfhgpmcmdiaa
