/-
  A number's digits of sixteen: the library's own formatting at that base.
-/
import Derived.Test.YtgdiejjjlchkpaaDoorRfN
import Derived.Test.YtgdiejjjlchkpaaDoorChR
import Derived.Lib.LaidTab
import Derived.Laws.BitsLemmas
import Derived.Lib.SmallJoins
namespace Go.Proofs.YtgdiejjjlchkpaaDoor
open Go.RowKit

/-- The table by which the library counts a word's last noughts. -/
def deB64 : List Int := [0, 1, 56, 2, 57, 49, 28, 3, 61, 58, 42, 50, 38, 29, 17, 4, 62, 47, 59, 36, 45, 43, 51, 22, 53, 39, 33, 30, 24, 18, 12, 5, 63, 55, 48, 27, 60, 41, 37, 16, 46, 35, 44, 21, 52, 32, 23, 11, 54, 26, 40, 15, 34, 20, 31, 10, 25, 14, 19, 9, 13, 8, 7, 6]
def Tab64 (w : World) : Prop := Lib.TabIs Tryd.prog w "math/bits.deBruijn64tab" .u8 deB64
theorem deb_global : Tryd.prog.globalNamed "math/bits.deBruijn64tab" = some 3 := by kernel_rfl
theorem Tab64.below {w w' : World} (h : Tab64 w) (hb : Below w.heap.size w w') : Tab64 w' := Go.Joins.tab_stays deb_global h hb (Nat.le_refl _)

theorem wraps_u64 (n : Int) (h₀ : 0 ≤ n) (h₁ : n < 2 ^ 64) : IntKind.u64.wrap n = n := by
  simp [IntKind.wrap, IntKind.bits, IntKind.signed]; omega
theorem u64_and15 {x : Int} (h₀ : 0 ≤ x) (h₁ : x < 18446744073709551616) : bits .and .u64 x 15 = x % 16 := bits_mask .u64 64 (by decide) wraps_u64 4 (by decide) x h₀ h₁

set_option maxHeartbeats 1000000 in
theorem tz64_16 (w : World) (ht : Tab64 w) :
    Calls Tryd.prog 65 #[.int .u64 16] w fun e w' => e = .returned (.int .i64 4) ∧ w' = w := by
  have hc : w.cell? ⟨3, 15, none⟩ = some (.int .u8 4) := ht.cell deb_global 15 (by decide)
  have hk : IntKind.u64.wrap (bits BinOp.and IntKind.u64 16 (IntKind.u64.wrap (-16)) * 285870213051353865) / 288230376151711744 = 15 := by decide +kernel
  clear ht
  go_enter Tryd.func65, Tryd.ntmps65
  go_wp2
  go_returns
  exact ⟨rfl, rfl⟩
set_option maxHeartbeats 1000000 in
theorem tz_16 (w : World) (ht : Tab64 w) :
    Calls Tryd.prog 57 #[.int .u64 16] w fun e w' => e = .returned (.int .i64 4) ∧ w' = w := by
  go_enter Tryd.func57, Tryd.ntmps57
  go_wp2_with fail
  refine (tz64_16 _ ht).mono ?_
  rintro e w1 ⟨rfl, hw⟩
  obtain rfl := hw.symm
  go_wp2
  go_returns
  exact ⟨rfl, rfl⟩
set_option maxHeartbeats 1000000 in
theorem pow2_16 (w : World) :
    Calls Tryd.prog 56 #[.int .i64 16] w fun e w' => e = .returned (.bool true) ∧ w' = w := by
  have hb : bits .and .i64 16 15 = 0 := by decide +kernel
  go_enter Tryd.func56, Tryd.ntmps56
  go_wp2
  go_returns
  exact ⟨rfl, rfl⟩

/-- The i-th digit from the end. -/
def dgV (n i : Nat) : UInt8 := hxC (n / 16 ^ i % 16)
/-- The d last digits, the highest first. -/
def hexD (n d : Nat) : List UInt8 := (List.range d).map (fun j => dgV n (d - 1 - j))
theorem hexD_len (n d : Nat) : (hexD n d).length = d := by simp [hexD]
/-- The k last digits of n stand at the end of the block, whose cells may be written. -/
def HexInv (wx : World) (n k : Nat) (wr : World) : Prop :=
  Below wx.heap.size wx wr ∧ wx.heap.size < wr.heap.size ∧ (∀ i, i < k → wr.cell? ⟨wx.heap.size, 64 - i, none⟩ = some (.int .u8 ((dgV n i).toNat : Int))) ∧
    (∀ i, i < 65 → ∃ u, wr.cell? ⟨wx.heap.size, i, none⟩ = some u) ∧ (∀ i, wr.frozen? ⟨wx.heap.size, i, none⟩ = false)
theorem HexInv.put {wx wr : World} {n k : Nat} (h : HexInv wx n k wr) (hk : k < 65) (x : Int) (hx : x = ((dgV n k).toNat : Int)) : HexInv wx n (k + 1) (wr.setCell ⟨wx.heap.size, 64 - k, none⟩ (.int .u8 x)) := by
  obtain ⟨h0, h1, h2, h3, h4⟩ := h
  obtain ⟨u, hu⟩ := h3 (64 - k) (by omega)
  have hs : (wr.setCell ⟨wx.heap.size, 64 - k, none⟩ (.int .u8 x)).cell? ⟨wx.heap.size, 64 - k, none⟩ = some (.int .u8 x) := World.cell?_setCell_same' _ _ _ (by rw [hu]; rfl)
  refine ⟨h0.setCell (Nat.le_refl _) _, by simpa [World.setCell] using h1, fun i hi => ?_, fun i hi => ?_, fun i => by rw [World.frozen?_setCell]; exact h4 i⟩
  · by_cases e : i = k
    · subst e; rw [hs, hx]
    · exact (World.cell?_setCell_other _ _ _ _ (fun e2 => e (by injection e2 with _ e3; omega))).trans (h2 i (by omega))
  · by_cases e : i = 64 - k
    · subst e; exact ⟨_, hs⟩
    · obtain ⟨u', hu'⟩ := h3 i hi
      exact ⟨u', (World.cell?_setCell_other _ _ _ _ (fun e2 => e (by injection e2 with _ e3; omega))).trans hu'⟩
theorem HexInv.drewN {wx wr : World} {n k : Nat} (h : HexInv wx n k wr) (m : Nat) : HexInv wx n k (wr.drewN m) := by
  obtain ⟨h0, h1, h2, h3, h4⟩ := h
  exact ⟨below_drewN h0 m, by simpa using h1, fun i hi => by simpa using h2 i hi, fun i hi => by simpa using h3 i hi, fun i => by simpa using h4 i⟩
def zeros65 : Array Value := Array.replicate 65 (.int .u8 0)
theorem hex_made (w : World) (n : Nat) (t : TypeId) : HexInv w n 0 (w.alloc (.cells zeros65 t)) :=
  ⟨(Below.refl _ _).alloc (Nat.le_refl _) _, by simp, fun _ hi => absurd hi (Nat.not_lt_zero _), fun i hi => ⟨.int .u8 0, by rw [World.cell?_alloc_new]; simp [zeros65, hi]⟩, fun i => World.frozen?_alloc_new _ _ _ _⟩
theorem addr_at (b o j : Nat) : (⟨b, o, none⟩ : Addr).add j = ⟨b, o + j, none⟩ := by
  cases j <;> simp [Addr.add]
/-- All the letters that the library takes for digits. -/
def dgS : ByteArray := ⟨#[48, 49, 50, 51, 52, 53, 54, 55, 56, 57, 97, 98, 99, 100, 101, 102, 103, 104, 105, 106, 107, 108, 109, 110, 111, 112, 113, 114, 115, 116, 117, 118, 119, 120, 121, 122]⟩
theorem dgS_at : ∀ d : Nat, (h : d < 16) → dgS[d]'(by rw [show dgS.size = 36 from rfl]; omega) = hxC d := by decide +kernel
theorem idx_dg (d : Nat) (hd : d < 16) (w : World) : (Instr.index 9 (.string dgS) (.int .u64 (d : Int))).run Tryd.prog w = .ok (.int .u8 ((hxC d).toNat : Int)) w := by
  rw [run_index_string w 9 dgS .u64 _ Tryd.underlying9, dif_pos ⟨by omega, by rw [show dgS.size = 36 from rfl]; omega⟩]
  have e : ((d : Int)).toNat = d := by omega
  simp only [e]
  rw [dgS_at d hd]

set_option maxRecDepth 100000 in
set_option maxHeartbeats 4000000 in
theorem fb_16 (n : Nat) (hn : n < 18446744073709551616) (w : World) (ht : Tab64 w) :
    Calls Tryd.prog 45 #[.slice none 0 0, .int .u64 n, .int .i64 16, .bool false, .bool false] w fun e w' =>
      ∃ d, 1 ≤ d ∧ d ≤ 16 ∧ n < 16 ^ d ∧ e = .returned (.tuple #[.slice none 0 0, .string ⟨(hexD n d).toArray⟩]) ∧ Below w.heap.size w w' := by
  have hT := hid (fun w' (h : Tab64 w') => tz_16 w' h)
  have HT := hid ht
  have HN := hid hn
  clear ht
  go_enter Tryd.func45, Tryd.ntmps45
  rw [show (⟨#[48, 49, 50, 51, 52, 53, 54, 55, 56, 57, 97, 98, 99, 100, 101, 102, 103, 104, 105, 106, 107, 108, 109, 110, 111, 112, 113, 114, 115, 116, 117, 118, 119, 120, 121, 122]⟩ : ByteArray) = dgS from rfl]
  go_wp2_with fail
  refine (pow2_16 _).mono ?_
  rintro e w1 ⟨rfl, hw⟩
  obtain rfl := hw.symm
  have hI0 : HexInv w n 0 (w.alloc (.cells Tryd.zeroCells88 88)) := by
    rw [show Tryd.zeroCells88 = zeros65 by kernel_rfl]; exact hex_made w n _
  have hT0 : Tab64 (w.alloc (.cells Tryd.zeroCells88 88)) := HT.out.below ((Below.refl _ _).alloc (Nat.le_refl _) _)
  go_wp2_with fail
  refine (hT.out _ hT0).mono ?_
  rintro e w1 ⟨rfl, hw⟩
  obtain rfl := hw.symm
  have HI0 := hid hI0
  clear hI0 hT0
  go_wp2
  go_loopw [1, 13] (fun u i wr => ∃ k : Nat, k ≤ 15 ∧ u = .int .u64 ((n / 16 ^ k : Nat) : Int) ∧ i = .int .i64 ((65 - k : Nat) : Int) ∧ Hid (HexInv w n k wr) ∧ Hid (k = 0 ∨ 1 ≤ n / 16 ^ k)) (fun u _ _ => (intOf u).toNat)
  case atStart => exact ⟨0, by omega, by simp, rfl, HI0, hid (.inl rfl)⟩
  case round =>
    obtain ⟨k, hk, rfl, rfl, HI, HK⟩ := hrel
    have hI := HI.out
    obtain ⟨P, hP⟩ : ∃ P, 65 - k = P + 1 := ⟨64 - k, by omega⟩
    have hPk : 64 - k = P := by omega
    obtain ⟨u, hu⟩ := hI.2.2.2.1 P (by omega)
    have hfr := hI.2.2.2.2 P
    have hlt := hI.2.1
    rw [hP]
    have hUn : n / 16 ^ k ≤ n := Nat.div_le_self _ _
    have hS := hid (show n / 16 ^ k / 16 = n / 16 ^ (k + 1) by rw [Nat.pow_succ, Nat.div_div_eq_div_mul])
    have hD := hid (show hxC (n / 16 ^ k % 16) = dgV n k from rfl)
    have h15 : k = 15 → n / 16 ^ k < 16 := by rintro rfl; omega
    have HB := hid (show n / 16 ^ k < 16 → n < 16 ^ (k + 1) from fun h => by
      have := (Nat.div_lt_iff_lt_mul (Nat.pow_pos (by decide))).1 h
      rwa [Nat.pow_succ, Nat.mul_comm])
    generalize hUe : n / 16 ^ k = U at hUn hS hD h15 HB HK ⊢
    clear hUe
    have hm : U % 16 < 16 := Nat.mod_lt _ (by decide)
    have a1 := u64_and15 (x := (U : Int)) (by omega) (by omega)
    by_cases hge : 16 ≤ U
    · have hk14 : k ≤ 14 := by
        have : k ≠ 15 := fun e => absurd (h15 e) (by omega)
        omega
      have hgi : (U : Int) ≥ 16 := by omega
      have hX := fun w' => idx_dg (U % 16) hm w'
      rw [show (((U % 16 : Nat) : Nat) : Int) = (U : Int) % 16 by omega] at hX
      clear hm hk hP h15
      go_wp2
      go_roundw
      case rel =>
        refine ⟨k + 1, by omega, ?_, ?_, ?_, ?_⟩
        · rw [← hS.out]; go_num
        · rw [show 65 - (k + 1) = P by omega]
        · refine hid ?_
          have := HI.out.put (by omega) ((hxC (U % 16)).toNat : Int) (by rw [hD.out])
          rw [hPk] at this
          exact this
        · refine hid (.inr ?_)
          rw [← hS.out]; omega
      case measure => simp [intOf]; omega
    · have hgi : ¬ (U : Int) ≥ 16 := by omega
      have hX := fun w' => idx_dg U (by omega) w'
      have hmU : U % 16 = U := Nat.mod_eq_of_lt (by omega)
      rw [hmU] at hD
      have hQ := HI.out.put (by omega) ((hxC U).toNat : Int) (by rw [hD.out])
      rw [hPk] at hQ
      have hsl : ∀ W, (Instr.sliceAt 88 (.pointer (some ⟨w.heap.size, 0, none⟩)) (some (.int .i64 (P : Int))) none none).run Tryd.prog W = .ok (.slice (some ⟨w.heap.size, P, none⟩) (k + 1) (k + 1)) W := fun W => by
        have hal : Tryd.prog.arrayLen 88 = 65 := by kernel_rfl
        rw [run_sliceAt_array_l W 88 ⟨w.heap.size, 0, none⟩ (by kernel_rfl) .i64 (P : Int) (by omega) (by rw [hal]; omega)]
        go_simp
        omega
      have hcv := run_convert_bytes_back (P := Tryd.prog) (wr.setCell ⟨w.heap.size, P, none⟩ (.int .u8 ((hxC U).toNat : Int))) 60 9 5 ⟨w.heap.size, P, none⟩ (k + 1)
        (hexD n (k + 1)) Tryd.underlying60 Tryd.underlying5 Tryd.underlying9 (fun j hj => by
          rw [hexD_len] at hj
          have := hQ.2.2.1 (k - j) (by omega)
          rw [show 64 - (k - j) = P + j by omega] at this
          rw [addr_at, this]
          simp [hexD])
      rw [hexD_len] at hcv
      have HQ := hid hQ.1
      have HZ := hid (HB.out (by omega))
      clear hm hP h15 a1 hQ
      go_wp2
      go_returns
      exact ⟨k + 1, by omega, by omega, HZ.out, rfl, HQ.out⟩

set_option maxHeartbeats 1000000 in
theorem ifu_16 (n : Nat) (hn : n < 18446744073709551616) (w : World) (ht : Tab64 w) :
    Calls Tryd.prog 32 #[.int .u64 n, .int .i64 16] w fun e w' =>
      ∃ d, 1 ≤ d ∧ d ≤ 16 ∧ n < 16 ^ d ∧ e = .returned (.string ⟨(hexD n d).toArray⟩) ∧ Below w.heap.size w w' := by
  have H := hid (fb_16 n hn w ht)
  clear ht
  go_enter Tryd.func32, Tryd.ntmps32
  go_wp2_with fail
  refine H.out.mono ?_
  rintro e w1 ⟨d, h1, h2, h3, rfl, hb⟩
  have HD := hid (And.intro h1 (And.intro h2 h3))
  clear h1 h2 h3
  go_wp2
  go_returns
  exact ⟨d, HD.out.1, HD.out.2.1, HD.out.2.2, rfl, hb⟩
set_option maxHeartbeats 1000000 in
theorem fu_16 (n : Nat) (hn : n < 18446744073709551616) (w : World) (ht : Tab64 w) :
    Calls Tryd.prog 25 #[.int .u64 n, .int .i64 16] w fun e w' =>
      ∃ d, 1 ≤ d ∧ d ≤ 16 ∧ n < 16 ^ d ∧ e = .returned (.string ⟨(hexD n d).toArray⟩) ∧ Below w.heap.size w w' := by
  have H := hid (ifu_16 n hn w ht)
  clear ht
  go_enter Tryd.func25, Tryd.ntmps25
  go_wp2_with fail
  refine H.out.mono ?_
  rintro e w1 ⟨d, h1, h2, h3, rfl, hb⟩
  have HD := hid (And.intro h1 (And.intro h2 h3))
  clear h1 h2 h3
  go_wp2
  go_returns
  exact ⟨d, HD.out.1, HD.out.2.1, HD.out.2.2, rfl, hb⟩

/-- Noughts ahead of a number's digits make sixteen of them. -/
theorem hex_pad (n d : Nat) (h1 : d ≤ 16) (h2 : n < 16 ^ d) : List.replicate (16 - d) (48 : UInt8) ++ hexD n d = hxs n := by
  apply List.ext_getElem
  · rw [List.length_append, List.length_replicate, hexD_len]
    show _ = 16
    omega
  · intro i hi1 hi2
    have hi : i < 16 := hi2
    have e := hxs_at n i hi
    rw [List.getD_eq_getElem?_getD, List.getElem?_eq_getElem hi2] at e
    rw [show (hxs n)[i] = hx n i from e, hx]
    by_cases h : i < 16 - d
    · rw [List.getElem_append_left (by simpa using h), List.getElem_replicate]
      have : n / 16 ^ (15 - i) = 0 := Nat.div_eq_of_lt (Nat.lt_of_lt_of_le h2 (Nat.pow_le_pow_right (by decide) (by omega)))
      rw [this]; rfl
    · rw [List.getElem_append_right (by simpa using h)]
      simp only [hexD, List.getElem_map, List.getElem_range, List.length_replicate, dgV]
      rw [show d - 1 - (i - (16 - d)) = 15 - i by omega]
end Go.Proofs.YtgdiejjjlchkpaaDoor
