/-
  The program's contracts for bank codes.
-/
import Derived.Test.YtfelomakgdplfaaBcR
import Derived.Lib.Bytealg
import Derived.Lib.UnsafeStr
import Derived.Laws.MakeOwn
import Derived.BigQuiet
import Derived.Laws.EntriesVeiled
namespace Go.Proofs.Ytfelomakgdplfaa
open Go.RowKit

set_option maxHeartbeats 400000 in
theorem litebyte_any (s : ByteArray) (c : Int) (w : World) :
    Calls Try.prog 27 #[.string s, .int .u8 c] w fun e w' => e = .returned (.int .i64 (Lib.indexByte s.data.toList c.toNat.toUInt8)) ∧ w' = w := by
  go_enter Try.func27, Try.ntmps27
  go_wp2
  rw [run_callFunc_extern Try.func28 (by kernel_rfl) (by kernel_rfl) (by kernel_rfl) (e := Extern.BytealgIndexByte.indexByte) (by kernel_rfl), Lib.run_indexByteString]
  simp only [Result.andThen]
  rw [Oper.upon_value]
  go_wp2
  go_ret
  exact ⟨rfl, rfl⟩

set_option maxHeartbeats 400000 in
theorem byteat_any (s : ByteArray) (c : Int) (w : World) :
    Calls Try.prog 26 #[.string s, .int .u8 c] w fun e w' => e = .returned (.int .i64 (Lib.indexByte s.data.toList c.toNat.toUInt8)) ∧ w' = w := by
  go_enter Try.func26, Try.ntmps26
  go_wp2_with (go_at_call 27; refine (litebyte_any _ _ _).mono ?_; rintro e w' ⟨rfl, hw'⟩; obtain rfl := hw'.symm)
  go_ret
  exact ⟨rfl, rfl⟩

def setL : ByteArray := ⟨#[65, 66, 67, 68, 69, 70, 71, 72, 73, 74, 75, 76, 77, 78, 79, 80, 81, 82, 83, 84, 85, 86, 87, 88, 89, 90]⟩
def setP : ByteArray := ⟨#[65, 66, 67, 68, 69, 70, 71, 72, 73, 74, 75, 76, 77, 78, 79, 80, 81, 82, 83, 84, 85, 86, 87, 88, 89, 90, 48, 49, 50, 51, 52, 53, 54, 55, 56, 57]⟩
theorem in_l_fin : ∀ n : Fin 256, decide (Lib.indexByte setL.data.toList (UInt8.ofNat n.1) ≥ 0) = ibLt (UInt8.ofNat n.1) := by decide +kernel
theorem in_p_fin : ∀ n : Fin 256, decide (Lib.indexByte setP.data.toList (UInt8.ofNat n.1) ≥ 0) = ibOk (UInt8.ofNat n.1) := by decide +kernel
theorem u8_fin (c : UInt8) : ∃ n : Fin 256, c = UInt8.ofNat n.1 := ⟨⟨c.toNat, c.toNat_lt⟩, by simp⟩
theorem in_l (c : UInt8) : decide (Lib.indexByte setL.data.toList c ≥ 0) = ibLt c := by
  obtain ⟨n, rfl⟩ := u8_fin c
  exact in_l_fin n
theorem in_p (c : UInt8) : decide (Lib.indexByte setP.data.toList c ≥ 0) = ibOk c := by
  obtain ⟨n, rfl⟩ := u8_fin c
  exact in_p_fin n

set_option maxHeartbeats 400000 in
theorem has_any (s : ByteArray) (c : UInt8) (w : World) :
    Calls Try.prog 22 #[.string s, .int .u8 c.toNat] w fun e w' => e = .returned (.bool (decide (Lib.indexByte s.data.toList c ≥ 0))) ∧ w' = w := by
  have B := hid (fun w' => byteat_any s c.toNat w')
  rw [show ((c.toNat : Int)).toNat.toUInt8 = c by simp] at B
  generalize Lib.indexByte s.data.toList c = i at B ⊢
  go_enter Try.func22, Try.ntmps22
  go_wp2_with (go_at_call 26; refine (B.out _).mono ?_; rintro e w' ⟨rfl, hw'⟩; obtain rfl := hw'.symm)
  go_ret
  exact ⟨rfl, rfl⟩
theorem has_l (c : UInt8) (w : World) :
    Calls Try.prog 22 #[.string setL, .int .u8 c.toNat] w fun e w' => e = .returned (.bool (ibLt c)) ∧ w' = w := by
  rw [← in_l]; exact has_any _ _ _
theorem has_p (c : UInt8) (w : World) :
    Calls Try.prog 22 #[.string setP, .int .u8 c.toNat] w fun e w' => e = .returned (.bool (ibOk c)) ∧ w' = w := by
  rw [← in_p]; exact has_any _ _ _

abbrev hasL : Value := .func (.func 22) #[.string setL] #[]
abbrev hasP : Value := .func (.func 22) #[.string setP] #[]

set_option maxHeartbeats 1000000 in
theorem places_any (w : World) :
    Calls Try.prog 21 #[] w fun e w' => e = .returned (.agg #[hasP, hasP, hasP, hasP, hasL, hasL, hasP, hasP, hasP, hasP, hasP]) ∧ Below w.heap.size w w' := by
  have hmf : ∀ (fn : Fn) (first cap : Array Value) (w : World), (Instr.makeFunc fn first cap).run Try.prog w = .ok (.func fn first cap) w := fun _ _ _ _ => rfl
  go_enter Try.func21, Try.ntmps21
  go_wp2
  refine bodyPost_ret (v := .agg #[hasP, hasP, hasP, hasP, hasL, hasL, hasP, hasP, hasP, hasP, hasP]) (by simp [results, Try.results21, go_sem, hasP, hasL, setP, setL, *]) rfl ⟨rfl, ?_⟩
  go_grown

theorem ib_ok_lt {c : UInt8} (h : ibLt c = true) : ibOk c = true := by rw [ibOk, h, Bool.or_true]

theorem places_cell (w1 : World) (T : TypeId) (k : Nat) (hk : k < 11) :
    (w1.alloc (.cells #[hasP, hasP, hasP, hasP, hasL, hasL, hasP, hasP, hasP, hasP, hasP] T)).cell? ⟨w1.heap.size, k, none⟩ = some (if k = 4 ∨ k = 5 then hasL else hasP) := by
  simp only [World.cell?, heap_alloc_new]
  match k, hk with
  | 0, _ | 1, _ | 2, _ | 3, _ | 4, _ | 5, _ | 6, _ | 7, _ | 8, _ | 9, _ | 10, _ => rfl

set_option maxHeartbeats 4000000 in
theorem biccheck_8 (s : ByteArray) (hs : s.size = 8 ∨ s.size = 11) (w : World) :
    Calls Try.prog 13 #[.string s] w fun e w' => e = .returned (.int .i64 (errB (shapeV s.data.toList s.size))) ∧ Below w.heap.size w w' := by
  have hl : s.data.toList.length = s.size := by simp
  have HC := hid (fun w1 k => places_cell w1 34 k)
  rcases hs with h | h
  all_goals
    have hs := hid h
    have hle : s.size ≤ 11 := by omega
    first
      | (have b8 : ((s.size : Int) != 8) = false := by rw [h]; rfl)
      | (have b8 : ((s.size : Int) != 8) = true := by rw [h]; rfl
         have b11 : ((s.size : Int) != 11) = false := by rw [h]; rfl)
    clear h
    go_enter Try.func13, Try.ntmps13
    go_wp2_with fail
    refine (places_any _).mono ?_
    rintro e w1 ⟨rfl, h1⟩
    go_wp2
    have hc := hid (HC.out w1)
    have hb : Below w.heap.size w (w1.alloc (.cells #[hasP, hasP, hasP, hasP, hasL, hasL, hasP, hasP, hasP, hasP, hasP] 34)) := h1.alloc h1.size _
    clear HC
    generalize w1.alloc (.cells #[hasP, hasP, hasP, hasP, hasL, hasL, hasP, hasP, hasP, hasP, hasP] 34) = w2 at hc hb ⊢
    generalize w1.heap.size = B at hc ⊢
    clear h1 w1
    go_loopw [16] (fun i wr => ∃ k : Nat, k ≤ s.size ∧ i = .int .i64 k ∧ ShG s k ∧ Below w.heap.size w wr ∧ Hid (∀ k, k < 11 → wr.cell? ⟨B, k, none⟩ = some (if k = 4 ∨ k = 5 then hasL else hasP))) (fun i _ => s.size - (intOf i).toNat)
    case atStart => exact ⟨0, Nat.zero_le _, rfl, ⟨rfl, fun h => absurd h (by omega), fun h => absurd h (by omega)⟩, hb, hc⟩
    case round =>
      obtain ⟨k, hk, rfl, hg, hbr, hcr⟩ := hrel
      have HG := hid hg
      clear hg hb hc
      by_cases hlt : k < s.size
      · have HS := hid (take_snoc s k hlt)
        have k11 : (k : Int) < 11 := by omega
        by_cases h45 : k = 4 ∨ k = 5
        · have hcell := hcr.out k (by omega)
          rw [if_pos h45, show hasL = .func (.func 22) #[.string setL] #[] from rfl] at hcell
          have B1 := hid (fun w' => has_l s[k] w')
          cases ho : ibLt s[k]
          · have hno := hid (shape_no (n := s.size) hlt (.inr ⟨h45, ho⟩))
            rw [ho] at B1
            clear ho h45 HG
            go_wp2
            go_quiet (first | (go_at_call 22; with_reducible exact Calls.quiet_of_same (B1.out _)))
            go_wp2
            go_returns
            rw [hno.out]
            exact ⟨rfl, ib_below_drewN hbr nq⟩
          · have HO := hid ho
            have H45 := hid h45
            rw [ho] at B1
            clear ho h45
            go_wp2
            go_quiet (first | (go_at_call 22; with_reducible exact Calls.quiet_of_same (B1.out _)))
            go_wp2
            go_round
            case rel =>
              refine ⟨k + 1, by omega, by go_num, ⟨?_, ?_, ?_⟩, ib_below_drewN hbr nq, hcr⟩
              · rw [HS.out, List.all_append, HG.out.1]; simp [ib_ok_lt HO.out]
              · intro h
                by_cases hk4 : k = 4
                · subst hk4
                  rw [byte_at s 4 hlt]; exact HO.out
                · exact HG.out.2.1 (by omega)
              · intro h
                by_cases hk5 : k = 5
                · subst hk5
                  rw [byte_at s 5 hlt]; exact HO.out
                · exact HG.out.2.2 (by omega)
            case measure => simp [intOf]; omega
        · have hcell := hcr.out k (by omega)
          rw [if_neg h45, show hasP = .func (.func 22) #[.string setP] #[] from rfl] at hcell
          have B1 := hid (fun w' => has_p s[k] w')
          cases ho : ibOk s[k]
          · have hno := hid (shape_no (n := s.size) hlt (.inl ho))
            rw [ho] at B1
            clear ho h45 HG
            go_wp2
            go_quiet (first | (go_at_call 22; with_reducible exact Calls.quiet_of_same (B1.out _)))
            go_wp2
            go_returns
            rw [hno.out]
            exact ⟨rfl, ib_below_drewN hbr nq⟩
          · have HO := hid ho
            have H45 := hid h45
            rw [ho] at B1
            clear ho h45
            go_wp2
            go_quiet (first | (go_at_call 22; with_reducible exact Calls.quiet_of_same (B1.out _)))
            go_wp2
            go_round
            case rel =>
              refine ⟨k + 1, by omega, by go_num, ⟨?_, ?_, ?_⟩, ib_below_drewN hbr nq, hcr⟩
              · rw [HS.out, List.all_append, HG.out.1]; simp [HO.out]
              · exact fun h => HG.out.2.1 (by have := H45.out; omega)
              · exact fun h => HG.out.2.2 (by have := H45.out; omega)
            case measure => simp [intOf]; omega
      · obtain rfl : k = s.size := by omega
        have hyes := hid (shapeV_iff.2 ⟨hl, by have h := HG.out.1; rw [take_all] at h; exact h, HG.out.2.1 (by have := hs.out; omega), HG.out.2.2 (by have := hs.out; omega)⟩)
        go_wp2
        go_returns
        rw [hyes.out]
        exact ⟨rfl, hbr⟩
end Go.Proofs.Ytfelomakgdplfaa
