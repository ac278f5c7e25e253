/-
  The program's sets of characters: whether a rune stands in a text of ASCII; the map of the sets; has.
-/
import Derived.Test.YtgdiejjjlchkpaaDoorChN
import Derived.Test.YtgdiejjjlchkpaaDoorByt
import Derived.Test.YtgdiejjjlchkpaaDoorShelf
import Derived.Laws.Runes
import Derived.Laws.RangeAny
import Derived.Lib.OthersKept
import Derived.Lib.Bytealg
import Derived.Lib.IndexLaws
import Derived.Maps.OwnSet
import Derived.Deep.DeepCutAuto
namespace Go.Proofs.YtgdiejjjlchkpaaDoor
open Go.RowKit Go.Shelf Go.Maps

/-- A text of ASCII. -/
def Asc (s : ByteArray) : Prop := ∀ b ∈ s.data.toList, b.toNat < 128
theorem Asc.at {s : ByteArray} (h : Asc s) (k : Nat) (hk : k < s.size) : s[k].toNat < 128 := h _ (by
  rw [ByteArray.getElem_eq_getElem_data]; exact Array.mem_toList_iff.2 (Array.getElem_mem _))
theorem indexByte_no : ∀ (l : List UInt8) (c : UInt8), c ∉ l → Lib.indexByte l c = -1
  | [], _, _ => rfl
  | b :: l, c, h => by
    have h1 : b ≠ c := fun e => h (by rw [e]; exact List.mem_cons_self)
    have h2 := indexByte_no l c (fun e => h (List.mem_cons_of_mem _ e))
    simp [Lib.indexByte, h1, h2]
theorem indexByte_asc {s : ByteArray} (h : Asc s) (a e : Nat) (c : UInt8) (hc : 128 ≤ c.toNat) : Lib.indexByte (s.extract a e).data.toList c = -1 :=
  indexByte_no _ _ fun hm => by have := h _ (mem_extract hm); omega

set_option maxRecDepth 100000 in
set_option maxHeartbeats 2000000 in
theorem indexRune_bad (s : ByteArray) (h : Asc s) (_hs : s.size ≤ 1000) (w : World) :
    Calls Tryd.prog 52 #[.string s, .int .i32 65533] w fun e w' => e = .returned (.int .i64 (-1)) ∧ Below w.heap.size w w' := by
  have HA := hid h
  clear h
  go_enter Tryd.func52, Tryd.ntmps52
  go_wp2
  go_loopw [5, 6] (fun _ _ wr => ∃ pos : Nat, pos ≤ s.size ∧ wr = w.iter s pos) (fun _ _ wr => s.size - wr.iterPos w.heap.size)
  case atStart => exact ⟨0, Nat.zero_le _, rfl⟩
  case round =>
    obtain ⟨pos, hp, rfl⟩ := hrel
    by_cases hlt : pos < s.size
    · have hb := HA.out.at pos hlt
      have hnx := fun ty => run_next_ascii (P := Tryd.prog) w s pos ty hlt hb
      have hne : (((s[pos]'hlt).toNat : Int) == 65533) = false := by rw [beq_eq_false_iff_ne]; omega
      go_wp2
      go_roundw
      case rel => exact ⟨pos + 1, by omega, rfl⟩
      case measure => simp; omega
    · have hnx := fun ty => run_next_end (P := Tryd.prog) w s pos ty hlt
      go_wp2
      go_returns
      exact ⟨rfl, (Below.refl _ w).alloc (Nat.le_refl _) _⟩

set_option maxRecDepth 100000 in
set_option maxHeartbeats 4000000 in
theorem indexRune_high (s : ByteArray) (h : Asc s) (_hs : s.size ≤ 1000) (r : Int) (hv : Utf8.valid r = true) (hr : 128 ≤ r) (hne : r ≠ 65533) (w : World) :
    Calls Tryd.prog 52 #[.string s, .int .i32 r] w fun e w' => e = .returned (.int .i64 (-1)) ∧ Below w.heap.size w w' := by
  obtain ⟨z1, z2, z3⟩ := encode_facts r hv hr
  have HA := hid h
  have HV := hid ((validRune_eq r).symm.trans hv)
  have hlt : ¬ r < 128 := by omega
  have hpo : 0 ≤ r := by omega
  have hbad : (r == 65533) = false := beq_eq_false_iff_ne.2 hne
  generalize hR : Utf8.encode r = R at z1 z2 z3
  have HR := hid hR
  clear h hv hR hne
  obtain ⟨k, hk⟩ : ∃ k, R.size = k + 1 := ⟨R.size - 1, by omega⟩
  have hkz : k < R.size := by omega
  have z4 : 128 ≤ (R[k]'hkz).toNat := by
    have h1 := z3 (by omega)
    have e : R.size - 1 = k := by omega
    simp only [e] at h1
    exact h1
  clear z3
  have ez : ((R.size : Int) - 1) = (k : Int) := by omega
  have hk3 : k ≤ 3 := by omega
  have HK := hid hk
  clear hk
  have hsem : ∀ w', (convert 21 9 (.int .i32 r)).run Tryd.prog w' = .ok (.string R) w' := fun w' => by
    rw [run_convert_int_string w' _ _ .i32 r (by rfl) Tryd.underlying9, HR.out]
  have hval := hid (fun w' : World => by
    have h := Tryd.utf8_ValidRune r w'
    rw [show Lib.validRune r = true from HV.out] at h
    exact h)
  have hidx : Hid (∀ (a e : Nat) (w' : World), Calls Tryd.prog 24 #[.string (s.extract a e), .int .u8 ((R[k]'hkz).toNat : Int)] w' fun en w1 => en = .returned (.int .i64 (-1)) ∧ w1 = w') := hid (fun a e w' => by
    have h := Tryd.strings_IndexByte (s.extract a e) (R[k]'hkz).toNat w'
    rw [Int.toNat_natCast, show ((R[k]'hkz).toNat).toUInt8 = R[k]'hkz from by simp, indexByte_asc HA.out a e _ z4] at h
    exact h)
  by_cases hks : k < s.size
  · have h1 := HA.out.at k hks
    have hnb : (((s[k]'hks).toNat : Int) != ((R[k]'hkz).toNat : Int)) = true := by rw [bne_iff_ne]; omega
    have hs1 : (k : Int) + 1 ≤ s.size := by omega
    go_enter Tryd.func52, Tryd.ntmps52
    go_wp2_with (first | (go_at_call 63; with_reducible refine (hval.out _).mono ?_; rintro e w' ⟨rfl, rfl⟩) | fail)
    apply wp_scope_straight
    go_wp2
    go_loop [9, 10, 11, 12] (fun b c _ _ => b = .int .i64 k ∧ c = .int .i64 0) (fun _ _ _ _ => 0)
    case atStart => exact ⟨rfl, rfl⟩
    case round =>
      obtain ⟨rfl, rfl⟩ := hrel
      go_wp2
      apply wp_scope_straight
      go_wp2
      go_quiet (fail)
      go_wp2
      have hw := wrap_id ((k : Int) + 1) (by omega) (by omega)
      have ht : ((k : Int) + 1).toNat = k + 1 := by omega
      have hcc : (0 : Int) ≤ (k : Int) + 1 ∧ (k : Int) + 1 ≤ (s.size : Int) := ⟨by omega, hs1⟩
      have hsl : ∀ W : World, (Instr.slice 9 (.string s) (some (.int .i64 ((k : Int) + 1))) none none).run Tryd.prog W = .ok (.string (s.extract (k + 1) s.size)) W := fun W => by
        rw [run_slice_string_from_if W _ s .i64 _ Tryd.underlying9, if_pos hcc, ht]
      have hb0 : ∀ q, Below w'.heap.size w' (w'.drewN q) := fun q => ib_below_drewN (Below.refl _ w') q
      have hb1 := hb0 nq
      generalize w'.drewN nq = W1 at hb1 ⊢
      clear hb0
      go_quiet (first | (go_at_call 24; with_reducible exact Calls.quiet_of_same (hidx.out _ _ _)))
      go_wp2
      dsimp only [Exit.noGoto]
      go_wp2
      dsimp only [Exit.noGoto]
      go_wp2
      go_returns
      exact ⟨rfl, ib_below_drewN hb1 _⟩
  · go_enter Tryd.func52, Tryd.ntmps52
    go_wp2_with (first | (go_at_call 63; with_reducible refine (hval.out _).mono ?_; rintro e w' ⟨rfl, rfl⟩) | fail)
    apply wp_scope_straight
    go_wp2
    go_loop [9, 10, 11, 12] (fun b c _ _ => b = .int .i64 k ∧ c = .int .i64 0) (fun _ _ _ _ => 0)
    case atStart => exact ⟨rfl, rfl⟩
    case round =>
      obtain ⟨rfl, rfl⟩ := hrel
      go_wp2
      go_returns
      exact ⟨rfl, Below.refl _ _⟩
end Go.Proofs.YtgdiejjjlchkpaaDoor
