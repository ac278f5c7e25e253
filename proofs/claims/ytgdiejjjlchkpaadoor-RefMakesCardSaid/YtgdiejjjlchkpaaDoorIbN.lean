/-
  Account numbers, as plain lists: the countries' lengths, the digits of a text, the rest by 97.
-/
import Derived.KernelRfl
namespace Go.Proofs.YtgdiejjjlchkpaaDoor

/-- Byte i of a text, as a number (0 beyond its end). -/
def byt (s : ByteArray) (i : Nat) : Nat := (s.data.toList[i]?.getD 0).toNat
theorem byt_get (s : ByteArray) (k : Nat) (h : k < s.size) : s[k].toNat = byt s k := by
  rw [byt, ByteArray.getElem_eq_getElem_data, List.getElem?_eq_getElem (by simpa using h)]
  rfl

/-- Countries and lengths, four bytes each. -/
def ibTxt : List UInt8 := [78, 79, 49, 53, 66, 69, 49, 54, 68, 75, 49, 56, 70, 73, 49, 56, 78, 76, 49, 56, 77, 75, 49, 57, 83, 73, 49, 57, 65, 84, 50, 48, 66, 65, 50, 48, 69, 69, 50, 48, 76, 84, 50, 48, 76, 85, 50, 48, 67, 72, 50, 49, 72, 82, 50, 49, 76, 73, 50, 49, 76, 86, 50, 49, 66, 71, 50, 50, 68, 69, 50, 50, 71, 66, 50, 50, 71, 69, 50, 50, 73, 69, 50, 50, 77, 69, 50, 50, 82, 83, 50, 50, 65, 69, 50, 51, 71, 73, 50, 51, 73, 76, 50, 51, 65, 68, 50, 52, 67, 90, 50, 52, 69, 83, 50, 52, 77, 68, 50, 52, 80, 75, 50, 52, 82, 79, 50, 52, 83, 65, 50, 52, 83, 69, 50, 52, 83, 75, 50, 52, 84, 78, 50, 52, 80, 84, 50, 53, 73, 83, 50, 54, 84, 82, 50, 54, 70, 82, 50, 55, 71, 82, 50, 55, 73, 84, 50, 55, 77, 67, 50, 55, 83, 77, 50, 55, 65, 76, 50, 56, 65, 90, 50, 56, 67, 89, 50, 56, 68, 79, 50, 56, 72, 85, 50, 56, 76, 66, 50, 56, 80, 76, 50, 56, 66, 82, 50, 57]
def chunk : List UInt8 → List (List UInt8 × Nat)
  | a :: b :: c :: d :: r => ([a, b], 10 * (c.toNat - 48) + (d.toNat - 48)) :: chunk r
  | _ => []
/-- Countries and lengths. -/
def ibTab : List (List UInt8 × Nat) := chunk ibTxt
def ibStr : ByteArray := ⟨ibTxt.toArray⟩
theorem ibStr_lit (a : Array UInt8) (h : a = ibTxt.toArray) : ByteArray.mk a = ibStr := by rw [h]; rfl
theorem ibTab_len : ibTab.length = 52 := by decide +kernel
theorem ibStr_size : ibStr.size = 208 := by decide +kernel
theorem ibStr_at : ∀ j, j < 52 → (ibStr.extract (4 * j) (4 * j + 2)).data.toList = (ibTab.getD j ([], 0)).1 := by decide +kernel
theorem ibStr_num : ∀ j, j < 52 → 48 ≤ byt ibStr (4 * j + 2) ∧ byt ibStr (4 * j + 2) ≤ 57 ∧ 48 ≤ byt ibStr (4 * j + 3) ∧ byt ibStr (4 * j + 3) ≤ 57 ∧
    10 * (byt ibStr (4 * j + 2) - 48) + (byt ibStr (4 * j + 3) - 48) = (ibTab.getD j ([], 0)).2 := by decide +kernel
theorem ibTab_two : ∀ p ∈ ibTab, p.1.length = 2 ∧ 15 ≤ p.2 ∧ p.2 ≤ 29 := by decide +kernel
/-- Each country stands once. -/
theorem ibTab_once : (ibTab.map (·.1)).Nodup := by decide +kernel

/-- How many a country says. -/
def lenV (l : List UInt8) : Nat × Bool := match ibTab.find? (fun p => p.1 == l) with | some p => (p.2, true) | none => (0, false)
/-- The country is none of the first j. -/
def NoC2 (l : List UInt8) (j : Nat) : Prop := ∀ i, i < j → (ibTab.getD i ([], 0)).1 ≠ l
theorem noC2_zero (l : List UInt8) : NoC2 l 0 := fun _ h => absurd h (Nat.not_lt_zero _)
theorem noC2_succ {l : List UInt8} {j : Nat} (h : NoC2 l j) (hj : (ibTab.getD j ([], 0)).1 ≠ l) : NoC2 l (j + 1) := fun i hi => by
  by_cases e : i = j
  · subst e; exact hj
  · exact h i (by omega)
theorem getD_at {α : Type} (l : List α) (d : α) (i : Nat) (h : i < l.length) : l.getD i d = l[i] := by
  rw [List.getD_eq_getElem?_getD, List.getElem?_eq_getElem h]; rfl
theorem lenV_miss {l : List UInt8} (h : NoC2 l 52) : lenV l = (0, false) := by
  have : ibTab.find? (fun p => p.1 == l) = none := by
    rw [List.find?_eq_none]
    intro p hp
    obtain ⟨i, hi, rfl⟩ := List.mem_iff_getElem.1 hp
    have h2 := h i (by rw [← ibTab_len]; exact hi)
    rw [getD_at _ _ _ hi] at h2
    simpa using h2
  rw [lenV, this]
theorem lenV_hit {l : List UInt8} {j : Nat} (hj : j < 52) (h : (ibTab.getD j ([], 0)).1 = l) : lenV l = ((ibTab.getD j ([], 0)).2, true) := by
  have hj' : j < ibTab.length := by rw [ibTab_len]; exact hj
  rw [getD_at _ _ _ hj'] at h ⊢
  have h2 : ibTab.find? (fun p => p.1 == l) = some ibTab[j] := by
    have hs : (ibTab.find? (fun p => p.1 == l)).isSome = true := by
      rw [List.find?_isSome]
      exact ⟨ibTab[j], List.getElem_mem hj', by simpa using h⟩
    obtain ⟨p, hp⟩ := Option.isSome_iff_exists.1 hs
    have hp1 : p.1 = l := by simpa using List.find?_some hp
    obtain ⟨i, hi, rfl⟩ := List.mem_iff_getElem.1 (List.mem_of_find?_eq_some hp)
    have e : i = j := by
      have hn := ibTab_once
      have a1 : (ibTab.map (·.1))[i]? = some l := by rw [List.getElem?_map, List.getElem?_eq_getElem hi]; simp [hp1]
      have a2 : (ibTab.map (·.1))[j]? = some l := by rw [List.getElem?_map, List.getElem?_eq_getElem hj']; simp [h]
      exact (List.getElem?_inj (by simpa using hi) hn).1 (a1.trans a2.symm)
    subst e
    exact hp
  rw [lenV, h2]

/-- A digit; a letter A to Z. -/
def ibDg (c : UInt8) : Bool := decide (48 ≤ c.toNat) && decide (c.toNat ≤ 57)
def ibLt (c : UInt8) : Bool := decide (65 ≤ c.toNat) && decide (c.toNat ≤ 90)
def ibOk (c : UInt8) : Bool := ibDg c || ibLt c
/-- The digits that stand for a byte. -/
def ibVal (c : UInt8) : List Nat := if ibDg c then [c.toNat - 48] else [(c.toNat - 55) / 10, (c.toNat - 55) % 10]
def digsOf (l : List UInt8) : List Nat := l.flatMap ibVal
theorem digsOf_snoc (l : List UInt8) (c : UInt8) : digsOf (l ++ [c]) = digsOf l ++ ibVal c := by simp [digsOf]
theorem digsOf_len (l : List UInt8) : (digsOf l).length ≤ 2 * l.length := by
  induction l with
  | nil => exact Nat.le_refl _
  | cons c l ih =>
    have : digsOf (c :: l) = ibVal c ++ digsOf l := by simp [digsOf]
    rw [this, List.length_append, List.length_cons]
    have : (ibVal c).length ≤ 2 := by unfold ibVal; split <;> simp
    omega
/-- The rest by 97 of a number that is given by its digits. -/
def horn (ds : List Nat) : Nat := ds.foldl (fun n d => (10 * n + d) % 97) 0
theorem horn_snoc (ds : List Nat) (d : Nat) : horn (ds ++ [d]) = (10 * horn ds + d) % 97 := by simp [horn]
theorem horn_lt (ds : List Nat) : horn ds < 97 := by
  rcases List.eq_nil_or_concat ds with rfl | ⟨l, d, rfl⟩
  · decide
  · rw [List.concat_eq_append, horn_snoc]
    exact Nat.mod_lt _ (by decide)
/-- The first four behind the others. -/
def rot (l : List UInt8) : List UInt8 := l.drop 4 ++ l.take 4
/-- What Rest tells. -/
def restV (l : List UInt8) : Nat × Bool := if 4 ≤ l.length ∧ l.all ibOk = true then (horn (digsOf (rot l)), true) else (0, false)
/-- What Check tells. -/
def checkV (l : List UInt8) : Int :=
  if 4 ≤ l.length ∧ ibDg (l.getD 2 0) = true ∧ ibDg (l.getD 3 0) = true ∧ lenV (l.take 2) = (l.length, true) ∧ restV l = (1, true) then 0 else 13
end Go.Proofs.YtgdiejjjlchkpaaDoor
