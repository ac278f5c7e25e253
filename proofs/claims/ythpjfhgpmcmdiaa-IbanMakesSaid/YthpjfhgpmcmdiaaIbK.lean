/-
  Account numbers: the program's Make.
-/
import Derived.Test.YthpjfhgpmcmdiaaIbQ
import Derived.Test.YthpjfhgpmcmdiaaIbM
namespace Go.Proofs.Ythpjfhgpmcmdiaa
open Go.RowKit

theorem ibTab_lt : ∀ p ∈ ibTab, p.1.all ibLt = true := by decide +kernel
theorem lenV_yes {l : List UInt8} {n : Nat} (h : lenV l = (n, true)) : l.length = 2 ∧ l.all ibLt = true ∧ 15 ≤ n ∧ n ≤ 29 := by
  rw [lenV] at h
  cases hf : ibTab.find? (fun p => p.1 == l) with
  | none => rw [hf] at h; cases h
  | some p =>
    rw [hf] at h
    cases h
    have hm := List.mem_of_find?_eq_some hf
    have he : p.1 = l := by simpa using List.find?_some hf
    obtain ⟨h1, h2, h3⟩ := ibTab_two p hm
    exact ⟨by rw [← he]; exact h1, by rw [← he]; exact ibTab_lt p hm, h2, h3⟩
theorem lt_ok {l : List UInt8} (h : l.all ibLt = true) : l.all ibOk = true := by
  rw [List.all_eq_true] at h ⊢
  exact fun c hc => by rw [ibOk, h c hc, Bool.or_true]

/-- May a number be made of a country and what is behind its check? -/
def mayB (co re : List UInt8) : Bool := (lenV co).2 && decide (re.length + 4 = (lenV co).1) && re.all ibOk
/-- The rest by 97 with the check 00. -/
def uncN (co re : List UInt8) : Nat := horn (digsOf (rot (co ++ ([48, 48] ++ re))))
theorem uncN_lt (co re : List UInt8) : uncN co re < 97 := horn_lt _

set_option maxHeartbeats 1000000 in
theorem ibmake_bad (co re : ByteArray) (w : World) (hs : co.size + re.size ≤ 100) (h : mayB co.data.toList re.data.toList = false) :
    Calls Try.prog 13 #[.string co, .string re] w fun e w' => e = .returned (.tuple #[.string ⟨#[]⟩, .int .i64 13]) ∧ Below w.heap.size w w' := by
  have hl : re.data.toList.length = re.size := by simp
  rw [mayB, hl] at h
  have HC := hid (fun w' => iblength_any co w' (by omega))
  have HL := hid (fun n (h : lenV co.data.toList = (n, true)) => lenV_yes h)
  generalize hv : lenV co.data.toList = v at h HC HL
  clear hv hl
  obtain ⟨n, is⟩ := v
  cases is
  · clear h
    go_enter Try.func13, Try.ntmps13
    go_wp2_with (go_at_call 9; with_reducible refine (HC.out _).mono ?_; rintro e w1 ⟨rfl, h1'⟩)
    go_returns
    exact ⟨rfl, h1'⟩
  · obtain ⟨-, -, hn1, hn2⟩ := HL.out n rfl
    by_cases hz : re.size + 4 = n
    · have hp : re.data.toList.all ibOk = false := by simpa [hz] using h
      have HP := hid hp
      clear h hp
      subst hz
      go_enter Try.func13, Try.ntmps13
      go_wp2_with (first
        | (go_at_call 9; with_reducible refine (HC.out _).mono ?_; rintro e w1 ⟨rfl, h1'⟩)
        | (go_at_call 15; with_reducible refine (isPlain_any _ (by omega) _).mono ?_; rintro e w' ⟨rfl, hw'⟩; obtain rfl := hw'.symm; rw [HP.out]))
      go_returns
      exact ⟨rfl, h1'⟩
    · have hz2 : ((re.size : Int) != (n : Int) - 4) = true := by rw [bne_iff_ne]; omega
      clear hz h
      go_enter Try.func13, Try.ntmps13
      go_wp2_with (go_at_call 9; with_reducible refine (HC.out _).mono ?_; rintro e w1 ⟨rfl, h1'⟩)
      go_returns
      exact ⟨rfl, h1'⟩

theorem may_parts {co re : List UInt8} (h : mayB co re = true) : ∃ n, lenV co = (n, true) ∧ re.length + 4 = n ∧ re.all ibOk = true ∧ co.length = 2 ∧ co.all ibOk = true ∧ n ≤ 29 ∧ 15 ≤ n := by
  simp only [mayB, Bool.and_eq_true, decide_eq_true_eq] at h
  obtain ⟨⟨h1, h2⟩, h3⟩ := h
  have e : lenV co = ((lenV co).1, true) := Prod.ext rfl h1
  obtain ⟨q1, q2, q3, q4⟩ := lenV_yes e
  exact ⟨_, e, h2, h3, q1, lt_ok q2, q4, q3⟩
theorem unc_rest {co re : List UInt8} (h : mayB co re = true) : restV (co ++ ([48, 48] ++ re)) = (uncN co re, true) := by
  obtain ⟨n, -, h2, h3, h4, h5, -, -⟩ := may_parts h
  rw [restV, if_pos ⟨by simp; omega, by simp only [List.all_append, h3, h5]; decide⟩, uncN]

set_option maxRecDepth 100000 in
set_option maxHeartbeats 1000000 in
theorem ibmake_good (co re : ByteArray) (w : World) (hs : co.size + re.size ≤ 100) (h : mayB co.data.toList re.data.toList = true) (x y : UInt8)
    (hx : x.toNat = 48 + (98 - uncN co.data.toList re.data.toList) / 10) (hy : y.toNat = 48 + (98 - uncN co.data.toList re.data.toList) % 10) :
    Calls Try.prog 13 #[.string co, .string re] w fun e w' => e = .returned (.tuple #[.string (co ++ ⟨#[x, y]⟩ ++ re), .int .i64 0]) ∧ Below w.heap.size w w' := by
  have hl : re.data.toList.length = re.size := by simp
  have HC := hid (fun w' => iblength_any co w' (by omega))
  have hr := unc_rest h
  have hu := uncN_lt co.data.toList re.data.toList
  obtain ⟨n, e1, hz, hp, hc, hcp, hn1, hn2⟩ := may_parts h
  rw [hl] at hz
  have hc2 : co.size = 2 := by simpa using hc
  rw [e1] at HC
  have HP := hid hp
  have hT : (co ++ ⟨#[48, 48]⟩ ++ re).data.toList = co.data.toList ++ ([48, 48] ++ re.data.toList) := by simp
  rw [← hT] at hr
  have HR := hid hr
  generalize uncN co.data.toList re.data.toList = r at hx hy hr hu HR
  have H2 := hid (fun w' => twoDigits_any (98 - r) (by omega) x y hx hy w')
  have e98 : ((98 - r : Nat) : Int) = 98 - (r : Int) := by omega
  rw [e98] at H2
  have k1 : co.size + 2 ≤ 9223372036854775807 := by omega
  have k2 : co.size + 2 + re.size ≤ 9223372036854775807 := by omega
  have z2 : (⟨#[48, 48]⟩ : ByteArray).size = 2 := rfl
  have z3 : (⟨#[x, y]⟩ : ByteArray).size = 2 := rfl
  have z4 : (co ++ ⟨#[48, 48]⟩ : ByteArray).size = co.size + 2 := by simp [ByteArray.size_append, z2]
  have z5 : (co ++ ⟨#[x, y]⟩ : ByteArray).size = co.size + 2 := by simp [ByteArray.size_append, z3]
  have z6 : (co ++ ⟨#[48, 48]⟩ ++ re : ByteArray).size ≤ 1000 := by rw [ByteArray.size_append, z4]; omega
  clear h hl e1 hp hcp hc hT hr hx hy e98
  subst hz
  go_enter Try.func13, Try.ntmps13
  go_wp2_with (first
    | (go_at_call 9; with_reducible refine (HC.out _).mono ?_; rintro e w1 ⟨rfl, h1'⟩)
    | (go_at_call 15; with_reducible refine (isPlain_any _ (by omega) _).mono ?_; rintro e w' ⟨rfl, hw'⟩; obtain rfl := hw'.symm; rw [HP.out])
    | (go_at_call 7; with_reducible refine (ibrest_any _ _ z6).mono ?_; rintro e w2 ⟨rfl, h2'⟩; rw [HR.out])
    | (go_at_call 19; with_reducible refine (H2.out _).mono ?_; rintro e w3 ⟨rfl, h3'⟩))
  go_returns
  have b2 := h1'.trans (h2'.mono h1'.size)
  exact ⟨rfl, b2.trans (h3'.mono b2.size)⟩
end Go.Proofs.Ythpjfhgpmcmdiaa
