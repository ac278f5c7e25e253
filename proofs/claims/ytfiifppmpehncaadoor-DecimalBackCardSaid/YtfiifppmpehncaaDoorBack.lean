/-
  DecimalBack's walk.
-/
import Derived.Test.YtfiifppmpehncaaDoorBackM
import Derived.Test.YtfiifppmpehncaaDoorNum
import Derived.Deep.RegionHeld3
namespace Go.Proofs.YtfiifppmpehncaaDoor
open Go.RowKit Go.Shelf

set_option maxRecDepth 100000 in
set_option maxHeartbeats 1000000 in
theorem back_long (s : ByteArray) (w : World) (ht : Tab w) (hl : 60 < s.size) :
    Calls Tryd.prog 6 #[.string s] w fun e w' => e = .returned (.bool true) ∧ Below w.heap.size w w' := by
  have HT := hid ht
  clear ht
  go_enter Tryd.func6, Tryd.ntmps6
  go_wp2_with fail
  with_reducible refine (wakes_any _ HT.out).mono ?_
  rintro e w1 ⟨rfl, h1⟩
  go_wp2
  go_returns
  exact ⟨rfl, h1⟩

set_option maxRecDepth 100000 in
set_option maxHeartbeats 1000000 in
theorem back_none (s : ByteArray) (x : Int) (w : World) (ht : Tab w) (hl : s.size ≤ 60) (hp : parseMTN s = (0, 0, x)) (hx : x ≠ 0) :
    Calls Tryd.prog 6 #[.string s] w fun e w' => e = .returned (.bool true) ∧ Below w.heap.size w w' := by
  have HT := hid ht
  have HP : Hid (∀ w' : World, Calls Tryd.prog 10 #[.string s] w' fun e w2 => e = .returned (numV false 0 0 x) ∧ Below w'.heap.size w' w2) := by
    intro w'
    have := parseMT_any s w' (by omega)
    rw [hp] at this
    exact this
  clear ht hp
  go_enter Tryd.func6, Tryd.ntmps6
  go_wp2_with fail
  with_reducible refine (HP.out _).mono ?_
  rintro e w1 ⟨rfl, h1⟩
  have N1 := hid (((Now.start w).below h1).box false 0 0 24)
  obtain ⟨b1, ⟨z1, x0, x1, x2⟩, _⟩ := N1.out
  have HT1 := hid (HT.out.below b1)
  go_wp2_with fail
  with_reducible refine (wakes_any _ HT1.out).mono ?_
  rintro e w2 ⟨rfl, h2⟩
  go_wp2
  go_returns
  exact ⟨rfl, b1.trans (h2.mono b1.size)⟩

set_option maxRecDepth 100000 in
set_option maxHeartbeats 4000000 in
theorem back_good (s : ByteArray) (c k : Nat) (w : World) (ht : Tab w) (hl : s.size ≤ 60) (hp : parseMTN s = ((c : Int), (k : Int), 0)) (hg : goodB false c k = true) (hz : (mtN false c k).1.size ≤ s.size) :
    Calls Tryd.prog 6 #[.string s] w fun e w' => e = .returned (.bool true) ∧ Below w.heap.size w w' := by
  have HT := hid ht
  have HP : Hid (∀ w' : World, Calls Tryd.prog 10 #[.string s] w' fun e w2 => e = .returned (numV false c k 0) ∧ Below w'.heap.size w' w2) := by
    intro w'
    have := parseMT_any s w' (by omega)
    rw [hp] at this
    exact this
  have hm := mt_back hg
  have hx := xml_back hg
  obtain ⟨a, ha⟩ : ∃ a, a = (mtN false c k).1 := ⟨_, rfl⟩
  obtain ⟨b, hb⟩ : ∃ b, b = (xmlN false c k).1 := ⟨_, rfl⟩
  have hbs : b.size ≤ 140737488355328 := by
    have h1 := (goodB_parts hg).2.1
    have h2 := (goodB_parts hg).2.2.2.1
    have h3 := dec_bd c (by omega)
    have h4 := pad_size c k
    rw [hb, xmlN, txt_good hg]
    show (wr c k _).size ≤ _
    rw [wr_size]
    have h5 : ∀ m : ByteArray, m.size ≤ 1 → (pad c k).size + m.size ≤ 140737488355328 := fun m hm => by omega
    split <;> exact h5 _ (by decide)
  have HM : Hid (∀ w' : World, Tab w' → Calls Tryd.prog 13 #[agg false c k] w' fun e w2 => e = .returned (.tuple #[.string a, .int .i64 0]) ∧ Below w'.heap.size w' w2) := by
    intro w' ht'
    have := mt_any false c k w' ht'
    rw [hm.1, ← ha] at this
    exact this
  have HX : Hid (∀ w' : World, Tab w' → Calls Tryd.prog 15 #[agg false c k] w' fun e w2 => e = .returned (.tuple #[.string b, .int .i64 0]) ∧ Below w'.heap.size w' w2) := by
    intro w' ht'
    have := xml_any false c k w' ht'
    rw [hx.1, ← hb] at this
    exact this
  rw [← ha] at hz
  have HPA : Hid (∀ w' : World, Calls Tryd.prog 10 #[.string a] w' fun e w2 => e = .returned (numV false c k 0) ∧ Below w'.heap.size w' w2) := by
    intro w'
    have := parseMT_any a w' (by omega)
    rw [ha, hm.2] at this
    rw [ha]
    exact this
  have HPB : Hid (∀ w' : World, Calls Tryd.prog 12 #[.string b] w' fun e w2 => e = .returned (numV false c k 0) ∧ Below w'.heap.size w' w2) := by
    intro w'
    have := parseXML_any b w' hbs
    rw [hb, hx.2] at this
    rw [hb]
    exact this
  have hn : Num false c k (wo false c k) := ⟨hg, rfl⟩
  obtain ⟨c1, s1, hln, hls, hl1⟩ := hn.least
  have HL := hid hl1
  have HLS := hid hls
  have hlg := goodB_parts hln.1
  obtain ⟨l0, l1, l2, l3, _⟩ := hlg
  have KS := hid (cmpZ_self (wo false c k))
  clear ht hp hm hx ha hb hls hl1 hg
  go_enter Tryd.func6, Tryd.ntmps6
  go_wp2_with fail
  with_reducible refine (HP.out _).mono ?_
  rintro e w1 ⟨rfl, h1⟩
  have N1 := hid (((Now.start w).below h1).box false c k 24)
  clear h1
  obtain ⟨b1, ⟨z1, x0, x1, x2⟩, _⟩ := N1.out
  go_wp2_with fail
  with_reducible refine (HM.out _ (HT.out.below b1)).mono ?_
  rintro e w2 ⟨rfl, h2⟩
  have N2 := hid (N1.out.below h2)
  clear b1 z1 x0 x1 x2 N1 h2
  obtain ⟨b1, ⟨z1, x0, x1, x2⟩, _⟩ := N2.out
  go_wp2_with fail
  with_reducible refine (HX.out _ (HT.out.below b1)).mono ?_
  rintro e w3 ⟨rfl, h3⟩
  have N3 := hid (N2.out.below h3)
  clear b1 z1 x0 x1 x2 N2 h3
  obtain ⟨b1, ⟨z1, x0, x1, x2⟩, _⟩ := N3.out
  go_wp2_with fail
  with_reducible refine (HPA.out _).mono ?_
  rintro e w4 ⟨rfl, h4⟩
  have N4 := hid ((N3.out.below h4).box false c k 24)
  clear b1 z1 x0 x1 x2 N3 h4
  obtain ⟨b1, ⟨yz, y0, y1, y2⟩, ⟨z1, x0, x1, x2⟩, _⟩ := N4.out
  go_wp2_with fail
  with_reducible refine (HPB.out _).mono ?_
  rintro e w5 ⟨rfl, h5⟩
  have N5 := hid ((N4.out.below h5).box false c k 24)
  clear b1 z1 x0 x1 x2 yz y0 y1 y2 N4 h5
  obtain ⟨b1, ⟨vz, v0, v1, v2⟩, ⟨yz, y0, y1, y2⟩, ⟨z1, x0, x1, x2⟩, _⟩ := N5.out
  go_wp2_with fail
  with_reducible refine (HL.out _).mono ?_
  rintro e w6 ⟨rfl, h6⟩
  have N6 := hid ((N5.out.below h6).box false c1 s1 24)
  clear b1 vz v0 v1 v2 z1 x0 x1 x2 yz y0 y1 y2 N5 h6
  obtain ⟨b1, ⟨tz, t0, t1, t2⟩, ⟨vz, v0, v1, v2⟩, ⟨yz, y0, y1, y2⟩, ⟨z1, x0, x1, x2⟩, _⟩ := N6.out
  go_wp2_with fail
  with_reducible refine (cmp_num hln hn _).mono ?_
  rintro e w7 ⟨rfl, h7⟩
  rw [KS.out]
  have N7 := hid (N6.out.below h7)
  clear b1 tz t0 t1 t2 vz v0 v1 v2 yz y0 y1 y2 z1 x0 x1 x2 N6 h7
  obtain ⟨b1, ⟨tz, t0, t1, t2⟩, ⟨vz, v0, v1, v2⟩, ⟨yz, y0, y1, y2⟩, ⟨z1, x0, x1, x2⟩, _⟩ := N7.out
  by_cases hs0 : s1 = 0
  · go_wp2_with fail
    with_reducible refine (wakes_any _ (HT.out.below b1)).mono ?_
    rintro e w8 ⟨rfl, h8⟩
    go_wp2
    go_returns
    exact ⟨rfl, b1.trans (h8.mono b1.size)⟩
  · have hc1 : ¬ c1 % 10 = 0 := by
      rcases HLS.out with h | h
      · exact absurd h hs0
      · exact h
    go_wp2_with fail
    with_reducible refine (wakes_any _ (HT.out.below b1)).mono ?_
    rintro e w8 ⟨rfl, h8⟩
    go_wp2
    go_returns
    have e9 : (s1 == 0 || c1 % 10 != 0) = true := by simp [hc1]
    exact ⟨congrArg (fun b => Ending.returned (.bool b)) e9, b1.trans (h8.mono b1.size)⟩

theorem back_any (s : ByteArray) (w : World) (ht : Tab w) :
    Calls Tryd.prog 6 #[.string s] w fun e w' => e = .returned (.bool true) ∧ Below w.heap.size w w' := by
  by_cases hl : s.size ≤ 60
  · rcases parseMTN_cases s with ⟨c, k, hp, hg, hz⟩ | ⟨x, hp, hx⟩
    · exact back_good s c k w ht hl hp hg hz
    · exact back_none s x w ht hl hp hx
  · exact back_long s w ht (by omega)
end Go.Proofs.YtfiifppmpehncaaDoor
