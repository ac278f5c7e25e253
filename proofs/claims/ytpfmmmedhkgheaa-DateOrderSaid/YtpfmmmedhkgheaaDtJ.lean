/-
  A text of a form as plain lists: its digits, its day.
-/
import Derived.Test.YtpfmmmedhkgheaaDtV
import Derived.Test.YtpfmmmedhkgheaaDtO
namespace Go.Proofs.Ytpfmmmedhkgheaa

theorem shape_dig {l f : List UInt8} (h : shapeV l f = true) {k : Nat} (hf : f[k]? = some 48) : ∃ c, l[k]? = some c ∧ 48 ≤ c.toNat ∧ c.toNat ≤ 57 := by
  obtain ⟨hl, ha⟩ := shape_at h
  obtain ⟨hk, hv⟩ := List.getElem?_eq_some_iff.1 hf
  have := ha k (by omega) hk
  rw [hv] at this
  refine ⟨l[k], List.getElem?_eq_getElem (by omega), ?_⟩
  simpa [fitB] using this
theorem shape_same {l f : List UInt8} (h : shapeV l f = true) {k : Nat} {d : UInt8} (hf : f[k]? = some d) (hd : d.toNat ≠ 48) : l[k]? = some d := by
  obtain ⟨hl, ha⟩ := shape_at h
  obtain ⟨hk, hv⟩ := List.getElem?_eq_some_iff.1 hf
  have := ha k (by omega) hk
  rw [hv, fitB, if_neg hd, decide_eq_true_eq, UInt8.toNat_inj] at this
  rw [List.getElem?_eq_getElem (by omega), this]
theorem dgs_of {l : List UInt8} {f m : Nat} (h : ∀ k, k < m → ∃ c, l[f + k]? = some c ∧ 48 ≤ c.toNat ∧ c.toNat ≤ 57) : ∃ n, dgs l f m = some n := by
  induction m with
  | zero => exact ⟨0, rfl⟩
  | succ m ih =>
    obtain ⟨n, hn⟩ := ih (fun k hk => h k (by omega))
    obtain ⟨c, hc, h1, h2⟩ := h m (by omega)
    exact ⟨_, dgs_next hn hc h1 h2⟩
/-- The number of the digits at a place of a form. -/
theorem shape_num {l f : List UInt8} (h : shapeV l f = true) (a m : Nat) (hf : ∀ k, k < m → f[a + k]? = some 48) : ∃ n : Nat, dgV l a m = (n : Int) ∧ n < 10 ^ m := by
  obtain ⟨n, hn⟩ := dgs_of (f := a) (m := m) (fun k hk => shape_dig h (hf k hk))
  exact ⟨n, dgV_some hn, dgs_bound hn⟩
theorem shape_bytes {s : ByteArray} {f : List UInt8} (h : shapeV s.data.toList f = true) (a m : Nat) (hf : ∀ k, k < m → f[a + k]? = some 48) :
    ∀ j (_ : j < s.size), a ≤ j → j < a + m → 48 ≤ s[j].toNat ∧ s[j].toNat ≤ 57 := fun j hj h1 h2 => by
  obtain ⟨c, hc, h3, h4⟩ := shape_dig h (k := j) (by have := hf (j - a) (by omega); rwa [show a + (j - a) = j by omega] at this)
  have e : s.data.toList[j]? = some s[j] := by
    rw [ByteArray.getElem_eq_getElem_data, List.getElem?_eq_getElem (by simpa using hj)]; rfl
  rw [e] at hc
  obtain rfl := Option.some.inj hc
  exact ⟨h3, h4⟩

def formM : List UInt8 := [48, 48, 48, 48, 48, 48]
def formX : List UInt8 := [48, 48, 48, 48, 45, 48, 48, 45, 48, 48]
def formT : List UInt8 := [48, 48, 48, 48, 45, 48, 48, 45, 48, 48, 84, 48, 48, 58, 48, 48, 58, 48, 48]

theorem xml_shaped {l : List UInt8} (h : shapeV l formX = true) : l.length = 10 ∧ ∃ Y M D : Nat, dgV l 0 4 = (Y : Int) ∧ dgV l 5 2 = (M : Int) ∧ dgV l 8 2 = (D : Int) ∧ Y ≤ 9999 ∧ M ≤ 99 ∧ D ≤ 99 ∧ xmlV l = dayV Y M D := by
  have hl : l.length = 10 := (shape_at h).1
  obtain ⟨Y, hY, bY⟩ := shape_num h 0 4 (by decide)
  obtain ⟨M, hM, bM⟩ := shape_num h 5 2 (by decide)
  obtain ⟨D, hD, bD⟩ := shape_num h 8 2 (by decide)
  refine ⟨hl, Y, M, D, hY, hM, hD, by omega, by omega, by omega, ?_⟩
  have h4 := shape_same h (k := 4) (d := 45) rfl (by decide)
  have h7 := shape_same h (k := 7) (d := 45) rfl (by decide)
  rw [xmlV, if_pos ⟨hl, by rw [List.getD_eq_getElem?_getD, h4]; rfl, by rw [List.getD_eq_getElem?_getD, h7]; rfl⟩, hY, hM, hD]
theorem xml_unshaped {l : List UInt8} (h : shapeV l formX = false) : ¬ 0 ≤ xmlV l := fun hx => by
  obtain ⟨x, y, a, b, c, d, e, f, rfl, hx, hy, ha, hb, hc, hd, he, hf, -⟩ := xml_parts hx
  have : shapeV [x, y, a, b, 45, c, d, 45, e, f] formX = true := by
    simp [shapeV, formX, fitB, hx, hy, ha, hb, hc, hd, he, hf]
  rw [this] at h; cases h
theorem mt_shaped {l : List UInt8} (h : shapeV l formM = true) : l.length = 6 ∧ ∃ Y M D : Nat, dgV l 0 2 = (Y : Int) ∧ dgV l 2 2 = (M : Int) ∧ dgV l 4 2 = (D : Int) ∧ Y ≤ 99 ∧ M ≤ 99 ∧ D ≤ 99 ∧ mtV l = dayV (fullY Y) M D := by
  have hl : l.length = 6 := (shape_at h).1
  obtain ⟨Y, hY, bY⟩ := shape_num h 0 2 (by decide)
  obtain ⟨M, hM, bM⟩ := shape_num h 2 2 (by decide)
  obtain ⟨D, hD, bD⟩ := shape_num h 4 2 (by decide)
  refine ⟨hl, Y, M, D, hY, hM, hD, by omega, by omega, by omega, ?_⟩
  rw [mtV, if_pos ⟨hl, by omega⟩, hY, hM, hD]
theorem mt_unshaped {l : List UInt8} (h : shapeV l formM = false) : ¬ 0 ≤ mtV l := fun hx => by
  rw [mtV] at hx
  split at hx
  · rename_i hc
    obtain ⟨a, b, c, d, e, f, rfl⟩ := six hc.1
    rw [dayV] at hx
    split at hx
    · rename_i hd
      simp only [isDay, Bool.and_eq_true, decide_eq_true_eq] at hd
      obtain ⟨⟨⟨⟨⟨i1, i2⟩, i3⟩, i4⟩, i5⟩, i6⟩ := hd
      obtain ⟨a1, a2, b1, b2, -⟩ := dig_two (l := [a, b, c, d, e, f]) (f := 0) (p := a) (q := b) rfl rfl hc.2
      obtain ⟨c1, c2, d1, d2, -⟩ := dig_two (l := [a, b, c, d, e, f]) (f := 2) (p := c) (q := d) rfl rfl (by omega)
      obtain ⟨e1, e2, f1, f2, -⟩ := dig_two (l := [a, b, c, d, e, f]) (f := 4) (p := e) (q := f) rfl rfl (by omega)
      have : shapeV [a, b, c, d, e, f] formM = true := by
        simp [shapeV, formM, fitB, a1, a2, b1, b2, c1, c2, d1, d2, e1, e2, f1, f2]
      rw [this] at h; cases h
    · omega
  · omega
/-- Whether a day is there is whether its number is one. -/
theorem dayV_nat (y m d : Nat) : (0 ≤ dayV y m d) = (isDay y m d = true) := by
  rw [dayV]
  split
  · rename_i h; simp [h]
  · rename_i h; simp [h]
theorem dayV_is {y m d : Nat} (h : isDay y m d = true) : 1980 ≤ y ∧ y ≤ 2079 ∧ 1 ≤ m ∧ m ≤ 12 ∧ 1 ≤ d ∧ d ≤ lenM y m ∧ dayV y m d = (dayN y m d : Nat) := by
  rw [dayV, if_pos h]
  simp only [isDay, Bool.and_eq_true, decide_eq_true_eq, Int.toNat_natCast] at h
  obtain ⟨⟨⟨⟨⟨i1, i2⟩, i3⟩, i4⟩, i5⟩, i6⟩ := h
  exact ⟨by omega, by omega, by omega, by omega, by omega, by omega, rfl⟩
end Go.Proofs.Ytpfmmmedhkgheaa
