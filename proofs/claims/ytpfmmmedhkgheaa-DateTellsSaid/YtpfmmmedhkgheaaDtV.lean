/-
  Package date: a text of a form, and what reads its parts.
-/
import Derived.Test.YtpfmmmedhkgheaaDtQ
namespace Go.Proofs.Ytpfmmmedhkgheaa
open Go.RowKit

/-- Is a byte what the form's byte asks? -/
def fitB (c d : UInt8) : Bool := if d.toNat = 48 then decide (48 ≤ c.toNat) && decide (c.toNat ≤ 57) else decide (c.toNat = d.toNat)
/-- Is a text of a form? -/
def shapeV (l f : List UInt8) : Bool := decide (l.length = f.length) && (l.zip f).all fun p => fitB p.1 p.2
theorem shape_len {l f : List UInt8} (h : l.length ≠ f.length) : shapeV l f = false := by rw [shapeV, decide_eq_false h, Bool.false_and]
theorem shape_bad {l f : List UInt8} {k : Nat} (hk : k < l.length) (hf : k < f.length) (h : fitB l[k] f[k] = false) : shapeV l f = false := by
  have : ((l.zip f).all fun p => fitB p.1 p.2) = false := by
    rw [List.all_eq_false]
    exact ⟨(l[k], f[k]), List.mem_iff_getElem.2 ⟨k, by simp; omega, by simp⟩, by simp [h]⟩
  rw [shapeV, this, Bool.and_false]
theorem shape_ok {l f : List UInt8} (hl : l.length = f.length) (h : ∀ k (hk : k < l.length) (hf : k < f.length), fitB l[k] f[k] = true) : shapeV l f = true := by
  have : ((l.zip f).all fun p => fitB p.1 p.2) = true := by
    rw [List.all_eq_true]
    intro p hp
    obtain ⟨k, hk, rfl⟩ := List.mem_iff_getElem.1 hp
    simp only [List.getElem_zip]
    exact h k _ _
  rw [shapeV, this, decide_eq_true hl]; rfl
theorem shape_at {l f : List UInt8} (h : shapeV l f = true) : l.length = f.length ∧ ∀ k (hk : k < l.length) (hf : k < f.length), fitB l[k] f[k] = true := by
  rw [shapeV, Bool.and_eq_true, decide_eq_true_eq, List.all_eq_true] at h
  refine ⟨h.1, fun k hk hf => ?_⟩
  have := h.2 (l[k], f[k]) (List.mem_iff_getElem.2 ⟨k, by simp; omega, by simp⟩)
  exact this

set_option maxRecDepth 100000 in
set_option maxHeartbeats 4000000 in
theorem dateshaped_any (s f : ByteArray) (w : World) (_ : s.size ≤ 9223372036854775807) (hf : f.size ≤ 100) :
    Calls Try.prog 24 #[.string s, .string f] w fun e w' => e = .returned (.int .i64 (dcode (shapeV s.data.toList f.data.toList))) ∧ Below w.heap.size w w' := by
  have hl : s.data.toList.length = s.size := by simp
  have hm : f.data.toList.length = f.size := by simp
  have HL := hid (show s.size ≠ f.size → shapeV s.data.toList f.data.toList = false from fun h => shape_len (by omega))
  have HB := hid (show ∀ k (hk : k < s.size) (hf : k < f.size), fitB s[k] f[k] = false → shapeV s.data.toList f.data.toList = false from fun k hk hf h => shape_bad (k := k) (by omega) (by omega) h)
  have HO := hid (show s.size = f.size → (∀ k (hk : k < s.size) (hf : k < f.size), fitB s[k] f[k] = true) → shapeV s.data.toList f.data.toList = true from fun h ha => shape_ok (by omega) (fun k hk hf => ha k (by omega) (by omega)))
  generalize shapeV s.data.toList f.data.toList = R at *
  clear hl hm
  by_cases hsz : s.size = f.size
  · have HZ := hid hsz
    go_enter Try.func24, Try.ntmps24
    go_wp2
    go_loopw [5, 6, 14] (fun _ _ i wx => ∃ k : Nat, k ≤ s.size ∧ i = .int .i64 k ∧ Hid (∀ j (hk : j < s.size) (hf : j < f.size), j < k → fitB s[j] f[j] = true) ∧ Below w.heap.size w wx) (fun _ _ i _ => s.size - (intOf i).toNat)
    case atStart => exact ⟨0, Nat.zero_le _, rfl, hid (fun _ _ _ h => absurd h (Nat.not_lt_zero _)), Below.refl _ _⟩
    case round =>
      obtain ⟨k, hk, rfl, HA, hB⟩ := hrel
      by_cases hlt : k < s.size
      · have hltf : k < f.size := by omega
        have hx : (f[k].toNat = 48 ∧ s[k].toNat < 48 ∧ fitB s[k] f[k] = false) ∨ (f[k].toNat = 48 ∧ 48 ≤ s[k].toNat ∧ 57 < s[k].toNat ∧ fitB s[k] f[k] = false) ∨ (f[k].toNat = 48 ∧ 48 ≤ s[k].toNat ∧ s[k].toNat ≤ 57 ∧ fitB s[k] f[k] = true) ∨
            (f[k].toNat ≠ 48 ∧ s[k].toNat = f[k].toNat ∧ fitB s[k] f[k] = true) ∨ (f[k].toNat ≠ 48 ∧ s[k].toNat ≠ f[k].toNat ∧ fitB s[k] f[k] = false) := by
          unfold fitB
          by_cases h1 : f[k].toNat = 48
          · rw [if_pos h1]
            by_cases h2 : 48 ≤ s[k].toNat
            · by_cases h3 : s[k].toNat ≤ 57
              · exact .inr (.inr (.inl ⟨h1, h2, h3, by simp [h2, h3]⟩))
              · exact .inr (.inl ⟨h1, h2, by omega, by simp [h3]⟩)
            · exact .inl ⟨h1, by omega, by simp [h2]⟩
          · rw [if_neg h1]
            by_cases h2 : s[k].toNat = f[k].toNat
            · exact .inr (.inr (.inr (.inl ⟨h1, h2, by simp [h2]⟩)))
            · exact .inr (.inr (.inr (.inr ⟨h1, h2, by simp [h2]⟩)))
        have HK := hid (HB.out k hlt hltf)
        have hdone : fitB s[k] f[k] = true → Hid (∀ j (hk : j < s.size) (hf : j < f.size), j < k + 1 → fitB s[j] f[j] = true) := fun ht => hid fun j hj hjf hjk => by
          by_cases e : j = k
          · subst e; exact ht
          · exact HA.out j hj hjf (by omega)
        have HD := hid hdone
        clear hdone
        generalize fitB s[k] f[k] = ft at HK HD hx
        rcases hx with ⟨h1, h2, rfl⟩ | ⟨h1, h2, h3, rfl⟩ | ⟨h1, h2, h3, rfl⟩ | ⟨h1, h2, rfl⟩ | ⟨h1, h2, rfl⟩
        case inr.inr.inl =>
          have hD := HD.out rfl
          clear HD HK
          have h3i : decide ((s[k].toNat : Int) ≤ 57) = true := by simp; omega
          go_wp2
          go_quiet (fail)
          go_wp2
          go_roundw
          case rel => exact ⟨k + 1, by omega, by go_num, hD, ib_below_drewN hB _⟩
          case measure => simp [intOf]; omega
        case inr.inr.inr.inl =>
          have hD := HD.out rfl
          clear HD HK
          go_wp2
          go_quiet (fail)
          go_wp2
          go_roundw
          case rel => exact ⟨k + 1, by omega, by go_num, hD, ib_below_drewN hB _⟩
          case measure => simp [intOf]; omega
        case inr.inr.inr.inr =>
          have hK := HK.out rfl
          subst hK
          clear HD HK
          have h2' : ((s[k].toNat : Int) == (f[k].toNat : Int)) = false := by rw [beq_eq_false_iff_ne]; omega
          go_wp2
          go_quiet (fail)
          go_wp2
          go_returns
          exact ⟨rfl, ib_below_drewN hB _⟩
        case inr.inl =>
          have hK := HK.out rfl
          subst hK
          clear HD HK
          have h3i : decide ((s[k].toNat : Int) ≤ 57) = false := by simp; omega
          go_wp2
          go_quiet (fail)
          go_wp2
          go_returns
          exact ⟨rfl, ib_below_drewN hB _⟩
        all_goals
          have hK := HK.out rfl
          subst hK
          clear HD HK
          go_wp2
          go_quiet (fail)
          go_wp2
          go_returns
          exact ⟨rfl, ib_below_drewN hB _⟩
      · obtain rfl : k = s.size := by omega
        have hR := HO.out hsz (fun j hj hjf => HA.out j hj hjf hj)
        subst hR
        go_wp2
        go_returns
        exact ⟨rfl, hB⟩
  · have hR := HL.out hsz
    subst hR
    go_enter Try.func24, Try.ntmps24
    go_wp2
    go_returns
    exact ⟨rfl, Below.refl _ _⟩

theorem dateparts_any (s : ByteArray) (w : World) :
    Calls Try.prog 25 #[.string s] w fun e w' => e = .returned (.func (.func 32) #[] #[.pointer (some ⟨w.heap.size, 0, none⟩)]) ∧ w' = w.alloc (.cells #[.string s] 9) := by
  go_enter Try.func25, Try.ntmps25
  go_wp2
  go_returns
  exact ⟨rfl, rfl⟩

set_option maxHeartbeats 4000000 in
theorem datepart_any (s : ByteArray) (B f m t : Nat) (w : World) (hc : w.cell? ⟨B, 0, none⟩ = some (.string s)) (hs : s.size ≤ 100) (ht : t = f + m) (hf : f + m ≤ s.size) (hm : m ≤ 4)
    (hd : ∀ j (hj : j < s.size), f ≤ j → j < f + m → 48 ≤ s[j].toNat ∧ s[j].toNat ≤ 57) :
    Calls Try.prog 32 #[.int .i64 f, .int .i64 t, .pointer (some ⟨B, 0, none⟩)] w fun e w' => e = .returned (.int .i64 (dgV s.data.toList f m)) ∧ w' = w := by
  have HS := hid (fun n (h : dgs s.data.toList f m = some n) => dgV_some h)
  have HD := hid hd
  have HT := hid ht
  clear hd
  generalize dgV s.data.toList f m = v at HS ⊢
  subst ht
  go_enter Try.func32, Try.ntmps32
  go_wp2
  go_loop [6, 7] (fun n i => ∃ k a : Nat, k ≤ m ∧ i = .int .i64 ((f + k : Nat) : Int) ∧ n = .int .i64 a ∧ dgs s.data.toList f k = some a ∧ a ≤ 9999) (fun _ i => f + m - (intOf i).toNat)
  case atStart => exact ⟨0, 0, Nat.zero_le _, rfl, rfl, rfl, by omega⟩
  case round =>
    obtain ⟨k, a, hk, rfl, rfl, hda, ha⟩ := hrel
    have HA := hid hda
    clear hda
    by_cases hlt : k < m
    · have he : f + k < s.size := by omega
      have hcc : s.data.toList[f + k]? = some s[f + k] := by
        rw [ByteArray.getElem_eq_getElem_data, List.getElem?_eq_getElem (by simpa using he)]; rfl
      obtain ⟨h, h2⟩ := HD.out (f + k) he (by omega) (by omega)
      have hr := hid (dgs_next HA.out hcc h h2)
      have hb := dgs_bound hr.out
      have hb2 : 10 ^ (k + 1) ≤ 10 ^ 4 := Nat.pow_le_pow_right (by omega) (by omega)
      clear hcc
      have hlt2 : 10 * a + (s[f + k].toNat - 48) ≤ 9999 := by omega
      clear hb hb2
      go_wp2
      go_round
      case rel => exact ⟨k + 1, 10 * a + (s[f + k].toNat - 48), by omega, by go_num, by go_num, hr.out, hlt2⟩
      case measure => simp [intOf]; omega
    · obtain rfl : k = m := by omega
      have hr := hid (HS.out a HA.out)
      go_wp2
      go_returns
      rw [hr.out]
      exact ⟨rfl, rfl⟩
end Go.Proofs.Ytpfmmmedhkgheaa
