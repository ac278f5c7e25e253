/-
  Days' order is their texts'.
-/
import Derived.Test.YtpfmmmedhkgheaaDtK
import GoSem.Op.String
namespace Go.Proofs.Ytpfmmmedhkgheaa

theorem dig_two {l : List UInt8} {f : Nat} {p q : UInt8} (h1 : l[f]? = some p) (h2 : l[f + 1]? = some q) (h : 0 ≤ dgV l f 2) :
    48 ≤ p.toNat ∧ p.toNat ≤ 57 ∧ 48 ≤ q.toNat ∧ q.toNat ≤ 57 ∧ dgV l f 2 = ((10 * (p.toNat - 48) + (q.toNat - 48) : Nat) : Int) := by
  simp only [dgV, dgs, Nat.add_zero, h1, h2, Option.bind_some] at h ⊢
  by_cases a : 48 ≤ p.toNat ∧ p.toNat ≤ 57
  · by_cases b : 48 ≤ q.toNat ∧ q.toNat ≤ 57
    · simp only [if_pos a, if_pos b, Option.bind_some]
      exact ⟨a.1, a.2, b.1, b.2, by omega⟩
    · simp [a, b] at h
  · simp [a] at h
theorem dig_four {l : List UInt8} {f : Nat} {p q r s : UInt8} (h1 : l[f]? = some p) (h2 : l[f + 1]? = some q) (h3 : l[f + 2]? = some r) (h4 : l[f + 3]? = some s) (h : 0 ≤ dgV l f 4) :
    (48 ≤ p.toNat ∧ p.toNat ≤ 57) ∧ (48 ≤ q.toNat ∧ q.toNat ≤ 57) ∧ (48 ≤ r.toNat ∧ r.toNat ≤ 57) ∧ (48 ≤ s.toNat ∧ s.toNat ≤ 57) ∧
      dgV l f 4 = ((1000 * (p.toNat - 48) + 100 * (q.toNat - 48) + 10 * (r.toNat - 48) + (s.toNat - 48) : Nat) : Int) := by
  simp only [dgV, dgs, Nat.add_zero, h1, h2, h3, h4, Option.bind_some] at h ⊢
  by_cases a : 48 ≤ p.toNat ∧ p.toNat ≤ 57
  · by_cases b : 48 ≤ q.toNat ∧ q.toNat ≤ 57
    · by_cases c : 48 ≤ r.toNat ∧ r.toNat ≤ 57
      · by_cases d : 48 ≤ s.toNat ∧ s.toNat ≤ 57
        · simp only [if_pos a, if_pos b, if_pos c, if_pos d, Option.bind_some]
          exact ⟨a, b, c, d, by omega⟩
        · simp [a, b, c, d] at h
      · simp [a, b, c] at h
    · simp [a, b] at h
  · simp [a] at h
/-- A day's text of XML: eight digits. -/
theorem xml_parts {l : List UInt8} (h : 0 ≤ xmlV l) : ∃ x y a b c d e f : UInt8, l = [x, y, a, b, 45, c, d, 45, e, f] ∧
    (48 ≤ x.toNat ∧ x.toNat ≤ 57) ∧ (48 ≤ y.toNat ∧ y.toNat ≤ 57) ∧ (48 ≤ a.toNat ∧ a.toNat ≤ 57) ∧ (48 ≤ b.toNat ∧ b.toNat ≤ 57) ∧
    (48 ≤ c.toNat ∧ c.toNat ≤ 57) ∧ (48 ≤ d.toNat ∧ d.toNat ≤ 57) ∧ (48 ≤ e.toNat ∧ e.toNat ≤ 57) ∧ (48 ≤ f.toNat ∧ f.toNat ≤ 57) ∧
    ∃ Y M D : Nat, Y = 1000 * (x.toNat - 48) + 100 * (y.toNat - 48) + 10 * (a.toNat - 48) + (b.toNat - 48) ∧ M = 10 * (c.toNat - 48) + (d.toNat - 48) ∧ D = 10 * (e.toNat - 48) + (f.toNat - 48) ∧
      1980 ≤ Y ∧ Y ≤ 2079 ∧ 1 ≤ M ∧ M ≤ 12 ∧ 1 ≤ D ∧ D ≤ lenM Y M ∧ xmlV l = (dayN Y M D : Nat) := by
  rw [xmlV] at h ⊢
  split at h
  · rename_i hc
    rw [if_pos hc]
    obtain ⟨x, y, a, b, p, c, d, q, e, f, rfl⟩ := ten hc.1
    obtain ⟨-, hp, hq⟩ := hc
    have hp : p = 45 := hp
    have hq : q = 45 := hq
    subst hp; subst hq
    rw [dayV] at h ⊢
    split at h
    · rename_i hd
      rw [if_pos hd]
      simp only [isDay, Bool.and_eq_true, decide_eq_true_eq] at hd
      obtain ⟨⟨⟨⟨⟨i1, i2⟩, i3⟩, i4⟩, i5⟩, i6⟩ := hd
      obtain ⟨hx, hy, ha, hb, e1⟩ := dig_four (l := [x, y, a, b, 45, c, d, 45, e, f]) (f := 0) (p := x) (q := y) (r := a) (s := b) rfl rfl rfl rfl (by omega)
      obtain ⟨c1, c2, d1, d2, e2⟩ := dig_two (l := [x, y, a, b, 45, c, d, 45, e, f]) (f := 5) (p := c) (q := d) rfl rfl (by omega)
      obtain ⟨f1, f2, g1, g2, e3⟩ := dig_two (l := [x, y, a, b, 45, c, d, 45, e, f]) (f := 8) (p := e) (q := f) rfl rfl (by omega)
      rw [e1, e2, e3] at i6
      rw [e1] at i1 i2
      rw [e2] at i3 i4
      rw [e3] at i5
      rw [e1, e2, e3]
      simp only [Int.toNat_natCast] at i6 ⊢
      exact ⟨x, y, a, b, c, d, e, f, rfl, hx, hy, ha, hb, ⟨c1, c2⟩, ⟨d1, d2⟩, ⟨f1, f2⟩, ⟨g1, g2⟩, _, _, _, rfl, rfl, rfl, by omega, by omega, by omega, by omega, by omega, by omega, rfl⟩
    · omega
  · omega
theorem less_cons (a b : UInt8) (l r : List UInt8) : Op.bytesLess (a :: l) (b :: r) = true ↔ a.toNat < b.toNat ∨ a.toNat = b.toNat ∧ Op.bytesLess l r = true := by
  rw [Op.bytesLess, Bool.or_eq_true, Bool.and_eq_true, decide_eq_true_eq, beq_iff_eq, UInt8.lt_iff_toNat_lt, UInt8.toNat_inj]
theorem less_nil : Op.bytesLess [] [] = false := by rw [Op.bytesLess]
theorem date_less {x y a b c d e f x' y' a' b' c' d' e' f' : UInt8} :
    Op.bytesLess [x, y, a, b, 45, c, d, 45, e, f] [x', y', a', b', 45, c', d', 45, e', f'] = true ↔
      x.toNat < x'.toNat ∨ x.toNat = x'.toNat ∧ (y.toNat < y'.toNat ∨ y.toNat = y'.toNat ∧ (a.toNat < a'.toNat ∨ a.toNat = a'.toNat ∧ (b.toNat < b'.toNat ∨ b.toNat = b'.toNat ∧
        (c.toNat < c'.toNat ∨ c.toNat = c'.toNat ∧ (d.toNat < d'.toNat ∨ d.toNat = d'.toNat ∧ (e.toNat < e'.toNat ∨ e.toNat = e'.toNat ∧ f.toNat < f'.toNat)))))) := by
  simp only [less_cons, less_nil, Bool.false_eq_true, Nat.lt_irrefl, false_or, true_and, and_false, or_false]
theorem year_less {x y a b x' y' a' b' : Nat} (h1 : 48 ≤ x ∧ x ≤ 57) (h2 : 48 ≤ y ∧ y ≤ 57) (h3 : 48 ≤ a ∧ a ≤ 57) (h4 : 48 ≤ b ∧ b ≤ 57)
    (k1 : 48 ≤ x' ∧ x' ≤ 57) (k2 : 48 ≤ y' ∧ y' ≤ 57) (k3 : 48 ≤ a' ∧ a' ≤ 57) (k4 : 48 ≤ b' ∧ b' ≤ 57) (P : Prop) :
    (x < x' ∨ x = x' ∧ (y < y' ∨ y = y' ∧ (a < a' ∨ a = a' ∧ (b < b' ∨ b = b' ∧ P)))) ↔
      (1000 * (x - 48) + 100 * (y - 48) + 10 * (a - 48) + (b - 48) < 1000 * (x' - 48) + 100 * (y' - 48) + 10 * (a' - 48) + (b' - 48) ∨
        1000 * (x - 48) + 100 * (y - 48) + 10 * (a - 48) + (b - 48) = 1000 * (x' - 48) + 100 * (y' - 48) + 10 * (a' - 48) + (b' - 48) ∧ P) := by
  by_cases p : P
  · simp only [p, and_true]; omega
  · simp only [p, and_false, or_false]; omega
theorem two_less {x y x' y' : Nat} (h1 : 48 ≤ x ∧ x ≤ 57) (h2 : 48 ≤ y ∧ y ≤ 57) (k1 : 48 ≤ x' ∧ x' ≤ 57) (k2 : 48 ≤ y' ∧ y' ≤ 57) (P : Prop) :
    (x < x' ∨ x = x' ∧ (y < y' ∨ y = y' ∧ P)) ↔ (10 * (x - 48) + (y - 48) < 10 * (x' - 48) + (y' - 48) ∨ 10 * (x - 48) + (y - 48) = 10 * (x' - 48) + (y' - 48) ∧ P) := by
  by_cases p : P
  · simp only [p, and_true]; omega
  · simp only [p, and_false, or_false]; omega
theorem two_last {x y x' y' : Nat} (h1 : 48 ≤ x ∧ x ≤ 57) (h2 : 48 ≤ y ∧ y ≤ 57) (k1 : 48 ≤ x' ∧ x' ≤ 57) (k2 : 48 ≤ y' ∧ y' ≤ 57) :
    (x < x' ∨ x = x' ∧ y < y') ↔ 10 * (x - 48) + (y - 48) < 10 * (x' - 48) + (y' - 48) := by omega
set_option maxHeartbeats 4000000 in
/-- Of two days the earlier one's text is ahead. -/
theorem xml_order {l r : List UInt8} (h : 0 ≤ xmlV l) (k : 0 ≤ xmlV r) : Op.bytesLess l r = decide (xmlV l < xmlV r) ∧ (xmlV l = xmlV r ↔ l = r) := by
  obtain ⟨x, y, a, b, c, d, e, f, rfl, hx, hy, ha, hb, hc, hd, he, hf, Y, M, D, hY, hM, hD, i1, i2, i3, i4, i5, i6, e1⟩ := xml_parts h
  obtain ⟨x', y', a', b', c', d', e', f', rfl, hx', hy', ha', hb', hc', hd', he', hf', Y', M', D', hY', hM', hD', j1, j2, j3, j4, j5, j6, e2⟩ := xml_parts k
  have hL := date_less (x := x) (y := y) (a := a) (b := b) (c := c) (d := d) (e := e) (f := f) (x' := x') (y' := y') (a' := a') (b' := b') (c' := c') (d' := d') (e' := e') (f' := f')
  rw [year_less hx hy ha hb hx' hy' ha' hb', two_less hc hd hc' hd', two_last he hf he' hf', ← hY, ← hY', ← hM, ← hM', ← hD, ← hD'] at hL
  have o1 := dayN_order (y := Y) (m := M) (d := D) (y' := Y') (m' := M') (d' := D') i1 i3 i4 i5 i6 j1 j3 j5 j4
  have o2 := dayN_order (y := Y') (m := M') (d := D') (y' := Y) (m' := M) (d' := D) j1 j3 j4 j5 j6 i1 i3 i5 i4
  rw [e1, e2]
  have hEq : (Y = Y' ∧ M = M' ∧ D = D') ↔ [x, y, a, b, 45, c, d, 45, e, f] = [x', y', a', b', 45, c', d', 45, e', f'] := by
    simp only [List.cons.injEq, and_true, true_and, ← UInt8.toNat_inj]
    omega
  rw [← hEq]
  by_cases q : Y < Y' ∨ Y = Y' ∧ (M < M' ∨ M = M' ∧ D < D')
  · have := o1 q
    refine ⟨by rw [hL.2 q, eq_comm, decide_eq_true_eq]; omega, by omega⟩
  · by_cases q2 : Y' < Y ∨ Y' = Y ∧ (M' < M ∨ M' = M ∧ D' < D)
    · have := o2 q2
      refine ⟨by rw [Bool.eq_false_iff.2 (fun t => q (hL.1 t)), eq_comm, decide_eq_false_iff_not]; omega, by omega⟩
    · obtain ⟨rfl, rfl, rfl⟩ : Y = Y' ∧ M = M' ∧ D = D' := by omega
      refine ⟨by rw [Bool.eq_false_iff.2 (fun t => q (hL.1 t)), eq_comm, decide_eq_false_iff_not]; omega, by simp⟩
end Go.Proofs.Ytpfmmmedhkgheaa
