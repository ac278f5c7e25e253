/-
  write, MT, XML.
-/
import Derived.Test.YtjpndajbkemnlaaDoorRead
import Derived.Lib.SmallJoins
import Derived.Deep.RegionWith
namespace Go.Proofs.YtjpndajbkemnlaaDoor
open Go.RowKit Go.Shelf

/-- The table of powers of ten that strconv reads. -/
def Tab (w : World) : Prop := Lib.TabIs Tryd.prog w "internal/strconv.uint64pow10" .u64 Lib.pow10Tab
theorem tab_global : Tryd.prog.globalNamed "internal/strconv.uint64pow10" = some 1 := by kernel_rfl
theorem Tab.below {w w' : World} (h : Tab w) (hb : Below w.heap.size w w') : Tab w' := Go.Joins.tab_stays tab_global h hb (Nat.le_refl _)

theorem below_grow (w : World) (k : Nat) (os : Array Obj) : Below w.heap.size w (Sort.grow (w.drewN k) os) := by
  refine ⟨rfl, rfl, rfl, ?_, fun i hi => ?_⟩
  · show w.heap.size ≤ (w.heap ++ os).size
    simp
  · show (w.heap ++ os)[i]? = _
    rw [Array.getElem?_append_left hi]

/-- A coefficient's digits. -/
def dec (c : Nat) : ByteArray := ⟨(Lib.decDigits c).toArray⟩
/-- With noughts ahead, so that there are more than s. -/
def pad (c s : Nat) : ByteArray := cat ⟨(Lib.repeatL [48] (s + 1 - (dec c).size)).toArray⟩ (dec c)
/-- A number's text with a mark ahead of the last s digits. -/
def wr (c s : Nat) (mark : ByteArray) : ByteArray := cat ((pad c s).extract 0 ((pad c s).size - s)) (cat mark ((pad c s).extract ((pad c s).size - s) (pad c s).size))

theorem formatInt_any (c : Nat) (w : World) (hc : c < 1000000000000000000) (ht : Tab w) :
    Calls Tryd.prog 28 #[.int .i64 c, .int .i64 10] w fun e w' => e = .returned (.string (dec c)) ∧ Below w.heap.size w w' :=
  (Tryd.strconv_FormatInt_10 c (by omega) (by omega) w ht).mono fun e w' ⟨he, k, os, hw⟩ => ⟨by rw [he, Lib.itoa_nonneg]; rfl, by rw [hw]; exact below_grow w k os⟩

theorem nDigits_le : ∀ (k u : Nat), u < 10 ^ (k + 1) → Lib.nDigits u ≤ k + 1
  | 0, u, h => by rw [Lib.nDigits, dif_pos (by simpa using h)]; omega
  | k + 1, u, h => by
    rw [Lib.nDigits]
    by_cases hu : u < 10
    · rw [dif_pos hu]; omega
    · rw [dif_neg hu]
      have := nDigits_le k (u / 10) (by rw [Nat.pow_succ] at h; omega)
      omega
theorem nDigits_pos (u : Nat) : 1 ≤ Lib.nDigits u := by
  rw [Lib.nDigits]; split <;> omega
theorem dec_size (c : Nat) : (dec c).size = Lib.nDigits c := by
  rw [← size_list, dec, ba_toList, Lib.decDigits_length]
theorem dec_bd (c : Nat) (hc : c < 1000000000000000000) : 1 ≤ (dec c).size ∧ (dec c).size ≤ 18 := by
  rw [dec_size]; exact ⟨nDigits_pos c, nDigits_le 17 c hc⟩
theorem rep_size (k : Nat) : (⟨(Lib.repeatL [48] k).toArray⟩ : ByteArray).size = k := by
  rw [← size_list, ba_toList, Lib.repeatL_length]; simp
theorem pad_size (c s : Nat) : (pad c s).size = (s + 1 - (dec c).size) + (dec c).size := by
  rw [pad, cat_size, rep_size]

set_option maxRecDepth 100000 in
set_option maxHeartbeats 1000000 in
theorem write_good (c s : Nat) (mark : ByteArray) (w : World) (ht : Tab w) (hg : goodB false c s = true) (hm : mark.size ≤ 100) :
    Calls Tryd.prog 16 #[.agg #[.bool false, .int .i64 c, .int .i64 s], .string mark] w fun e w' => e = .returned (.tuple #[.string (wr c s mark), .int .i64 0]) ∧ Below w.heap.size w w' := by
  have hp := goodB_parts hg
  have HG := hid hg
  have HT := hid ht
  clear hg ht
  obtain ⟨hc0, hc1, hs0, hs1, _⟩ := hp
  have hdb := dec_bd c (by omega)
  have hps := pad_size c s
  obtain ⟨d, hd⟩ : ∃ d, d = dec c := ⟨_, rfl⟩
  have HF : Hid (∀ w', Tab w' → Calls Tryd.prog 28 #[.int .i64 c, .int .i64 10] w' fun e w2 => e = .returned (.string d) ∧ Below w'.heap.size w' w2) := by
    intro w' ht'; rw [hd]; exact formatInt_any c w' (by omega) ht'
  have HPD : Hid (cat ⟨(Lib.repeatL [48] (s + 1 - d.size)).toArray⟩ d = pad c s) := by show _ = _; rw [hd]; rfl
  rw [← hd] at hdb hps
  have hw : wr c s mark = cat ((pad c s).extract 0 ((pad c s).size - s)) (cat mark ((pad c s).extract ((pad c s).size - s) (pad c s).size)) := rfl
  rw [hw]
  clear hw
  obtain ⟨q, hq⟩ : ∃ q, q = pad c s := ⟨_, rfl⟩
  rw [← hq] at HPD hps ⊢
  have HQ : Hid (s + 1 ≤ q.size ∧ q.size ≤ 24) := by show _ ∧ _; omega
  clear hps hq
  have HK : Hid (max 0 ((s : Int) + 1 - (d.size : Int)) = ((s + 1 - d.size : Nat) : Int)) := by show _ = _; omega
  have HL : Hid ((⟨#[48]⟩ : ByteArray).size * (s + 1 - d.size) ≤ 140737488355328) := by show 1 * _ ≤ _; omega
  obtain ⟨r, hr⟩ : ∃ r : ByteArray, r = ⟨(Lib.repeatL [48] (s + 1 - d.size)).toArray⟩ := ⟨_, rfl⟩
  have HR : Hid ((⟨(Lib.repeatL (⟨#[48]⟩ : ByteArray).data.toList (s + 1 - d.size)).toArray⟩ : ByteArray) = r) := hr.symm
  have HRS : Hid (r.size = s + 1 - d.size) := by show _ = _; rw [hr, rep_size]
  rw [← hr] at HPD
  clear hr
  clear hd
  go_enter Tryd.func16, Tryd.ntmps16
  go_wp2_with fail
  with_reducible refine (good_any _ _ _ _).mono ?_
  rintro e w1 ⟨rfl, h1⟩
  rw [HG.out]
  have A1 := (BoxNum.new w false c s 24).below h1
  have b1 : Below w.heap.size w w1 := ((Below.refl _ _).alloc (Nat.le_refl _) _).trans (h1.mono (by simp))
  have HA1 := hid A1
  obtain ⟨hz1, a0, a1, a2⟩ := A1
  go_wp2_with fail
  with_reducible refine (HF.out _ (HT.out.below b1)).mono ?_
  rintro e w2 ⟨rfl, h2⟩
  have b2 := b1.trans (h2.mono b1.size)
  have HA2 := hid (HA1.out.below h2)
  clear a0 a1 a2 HA1
  obtain ⟨hz2, a0, a1, a2⟩ := HA2.out
  obtain ⟨hd1, hd2⟩ := hdb
  go_wp2_with fail
  rw [HK.out]
  with_reducible refine (Tryd.strings_Repeat ⟨#[48]⟩ (s + 1 - d.size) _ (by omega) HL.out).mono ?_
  rintro e w3 ⟨rfl, h3⟩
  have b3 := b2.trans (h3.mono b2.size)
  have HA3 := hid (HA2.out.below h3)
  clear a0 a1 a2 HA2
  obtain ⟨hz3, a0, a1, a2⟩ := HA3.out
  rw [HR.out]
  go_wp2_with fail
  with_reducible refine (join2 _ _ r d _ (by simp [go_sem]) (by simp [go_sem]) (by omega) (by have := HRS.out; omega)).mono ?_
  rintro e w4 ⟨rfl, h4⟩
  have b4 := b3.trans (((Below.refl _ _).alloc (Nat.le_refl _) _).trans (h4.mono (by simp)) |>.mono b3.size)
  have HA4 := hid ((HA3.out.alloc (.cells #[.string r, .string d] 9)).below h4)
  clear a0 a1 a2 HA3
  obtain ⟨hz4, a0, a1, a2⟩ := HA4.out
  rw [HPD.out]
  obtain ⟨hq1, hq2⟩ := HQ.out
  go_wp2_with fail
  obtain ⟨k, hk, hkq⟩ : ∃ k : Nat, q.size - s = k ∧ ((q.size : Int) - (s : Int)) = (k : Int) := ⟨q.size - s, rfl, by omega⟩
  have hk2 : k ≤ q.size := by omega
  have HKq := hid hk
  rw [hkq]
  clear hkq hk a0 a1 a2
  go_region_with (go_at_call 27; refine (join3 _ _ (q.extract 0 k) mark (q.extract k q.size) _ (by simp [go_sem]) (by simp [go_sem]) (by simp [go_sem]) (by omega) (by have := extract_size q 0 k; have := extract_size q k q.size; omega)).mono ?_; rintro e w5 ⟨rfl, h5⟩)
  go_wp2
  go_returns
  refine ⟨by rw [HKq.out]; rfl, ?_⟩
  exact b4.trans (((Below.refl _ _).drew.alloc (Nat.le_refl _) _).trans (h5.mono (by simp)) |>.mono b4.size)

set_option maxHeartbeats 400000 in
theorem write_bad (g : Bool) (c s : Int) (mark : ByteArray) (w : World) (hg : goodB g c s = false ∨ g = true) :
    Calls Tryd.prog 16 #[.agg #[.bool g, .int .i64 c, .int .i64 s], .string mark] w fun e w' => e = .returned (.tuple #[.string ⟨#[]⟩, .int .i64 1]) ∧ Below w.heap.size w w' := by
  have HG := hid hg
  clear hg
  cases hG : goodB g c s
  · have HG2 := hid hG
    clear hG
    go_enter Tryd.func16, Tryd.ntmps16
    go_wp2_with fail
    with_reducible refine (good_any _ _ _ _).mono ?_
    rintro e w1 ⟨rfl, h1⟩
    rw [HG2.out]
    have b1 : Below w.heap.size w w1 := ((Below.refl _ _).alloc (Nat.le_refl _) _).trans (h1.mono (by simp))
    go_wp2
    go_returns
    exact ⟨rfl, b1⟩
  · obtain rfl : g = true := by
      rcases HG.out with h | h
      · rw [hG] at h; cases h
      · exact h
    have HG2 := hid hG
    clear hG HG
    go_enter Tryd.func16, Tryd.ntmps16
    go_wp2_with fail
    with_reducible refine (good_any _ _ _ _).mono ?_
    rintro e w1 ⟨rfl, h1⟩
    rw [HG2.out]
    have A1 := (BoxNum.new w true c s 24).below h1
    have b1 : Below w.heap.size w w1 := ((Below.refl _ _).alloc (Nat.le_refl _) _).trans (h1.mono (by simp))
    obtain ⟨hz1, a0, a1, a2⟩ := A1
    go_wp2
    go_returns
    exact ⟨rfl, b1⟩

/-- A number's text, or none. -/
def txt (g : Bool) (c s : Int) (mark : ByteArray) : ByteArray × Int := if goodB g c s && !g then (wr c.toNat s.toNat mark, 0) else (⟨#[]⟩, 1)
theorem write_any (g : Bool) (c s : Int) (mark : ByteArray) (w : World) (ht : Tab w) (hm : mark.size ≤ 100) :
    Calls Tryd.prog 16 #[.agg #[.bool g, .int .i64 c, .int .i64 s], .string mark] w fun e w' => e = .returned (.tuple #[.string (txt g c s mark).1, .int .i64 (txt g c s mark).2]) ∧ Below w.heap.size w w' := by
  cases hG : goodB g c s
  · rw [txt, hG]
    exact write_bad g c s mark w (.inl hG)
  · cases g
    · rw [txt, hG]
      obtain ⟨h0, _, h2, _⟩ := goodB_parts hG
      obtain ⟨c, rfl⟩ : ∃ n : Nat, c = n := ⟨c.toNat, by omega⟩
      obtain ⟨s, rfl⟩ : ∃ n : Nat, s = n := ⟨s.toNat, by omega⟩
      exact write_good c s mark w ht hG hm
    · rw [txt, hG]
      exact write_bad true c s mark w (.inr rfl)

/-- What MT tells. -/
def mtN (g : Bool) (c s : Int) : ByteArray × Int := txt g c s ⟨#[44]⟩
/-- What XML tells. -/
def xmlN (g : Bool) (c s : Int) : ByteArray × Int := txt g c s (if s = 0 then ⟨#[]⟩ else ⟨#[46]⟩)
set_option maxHeartbeats 400000 in
theorem xml_any (g : Bool) (c s : Int) (w : World) (ht : Tab w) :
    Calls Tryd.prog 7 #[.agg #[.bool g, .int .i64 c, .int .i64 s]] w fun e w' => e = .returned (.tuple #[.string (xmlN g c s).1, .int .i64 (xmlN g c s).2]) ∧ Below w.heap.size w w' := by
  have hw := fun w' ht' => write_any g c s (if s = 0 then ⟨#[]⟩ else ⟨#[46]⟩) w' ht' (by split <;> decide)
  rw [xmlN]
  have HT := hid (ht.below ((Below.refl w.heap.size w).alloc (Nat.le_refl _) (.cells #[.bool g, .int .i64 c, .int .i64 s] 24)))
  by_cases hs : s = 0
  · rw [if_pos hs] at hw ⊢
    generalize txt g c s ⟨#[]⟩ = v at hw ⊢
    obtain ⟨v1, v2⟩ := v
    subst hs
    have HW := hid hw
    clear hw ht
    go_enter Tryd.func7, Tryd.ntmps7
    go_wp2_with fail
    with_reducible refine (HW.out _ HT.out).mono ?_
    rintro e w1 ⟨rfl, h1⟩
    have b1 : Below w.heap.size w w1 := ((Below.refl _ _).alloc (Nat.le_refl _) _).trans (h1.mono (by simp))
    go_wp2
    go_returns
    exact ⟨rfl, b1⟩
  · rw [if_neg hs] at hw ⊢
    generalize txt g c s ⟨#[46]⟩ = v at hw ⊢
    obtain ⟨v1, v2⟩ := v
    have HW := hid hw
    clear hw ht
    go_enter Tryd.func7, Tryd.ntmps7
    go_wp2_with fail
    with_reducible refine (HW.out _ HT.out).mono ?_
    rintro e w1 ⟨rfl, h1⟩
    have b1 : Below w.heap.size w w1 := ((Below.refl _ _).alloc (Nat.le_refl _) _).trans (h1.mono (by simp))
    go_wp2
    go_returns
    exact ⟨rfl, b1⟩
end Go.Proofs.YtjpndajbkemnlaaDoor
