/-
  The walk of CurrencyBoth.
-/
import Derived.Test.YtjpndajbkemnlaaDoorCurW
import Derived.Test.YtjpndajbkemnlaaDoorBackM
import Derived.Test.YtjpndajbkemnlaaDoorNow
namespace Go.Proofs.YtjpndajbkemnlaaDoor
open Go.RowKit Go.Shelf

theorem xml_size {c k : Nat} (h : goodB false c k = true) (n : Nat) (hn : (mtN false c k).1.size ≤ n) : (xmlN false c k).1.size ≤ n := by
  rw [mtN, txt_good h] at hn
  have h1 := wr_size c k ⟨#[44]⟩
  have e1 : (⟨#[44]⟩ : ByteArray).size = 1 := rfl
  rw [xmlN]
  by_cases hk : (k : Int) = 0
  · rw [if_pos hk, txt_good h]
    have h2 := wr_size c k ⟨#[]⟩
    have e2 : (⟨#[]⟩ : ByteArray).size = 0 := rfl
    dsimp only at hn ⊢
    omega
  · rw [if_neg hk, txt_good h]
    have h2 := wr_size c k ⟨#[46]⟩
    have e2 : (⟨#[46]⟩ : ByteArray).size = 1 := rfl
    dsimp only at hn ⊢
    omega

set_option maxHeartbeats 1000000 in
theorem callBoth_long (s t : ByteArray) (w : World) (hs : s.size ≤ 9223372036854775807) (ht : t.size ≤ 9223372036854775807) (hl : 60 < s.size ∨ s.size ≤ 60 ∧ 60 < t.size) :
    Calls Tryd.prog 3 #[.string s, .string t] w fun e w' => e = .returned (.bool true) ∧ Below w.heap.size w w' := by
  rcases hl with hl | ⟨hl, hl2⟩
  all_goals
    go_enter Tryd.func3, Tryd.ntmps3
    go_wp2_with (go_at_call 4; with_reducible refine (curwakes_any _).mono ?_; rintro e w1 ⟨rfl, h1⟩)
    go_returns
    exact ⟨rfl, h1⟩

set_option maxRecDepth 100000 in
set_option maxHeartbeats 4000000 in
theorem callBoth_none (s t : ByteArray) (w : World) (hs : s.size ≤ 60) (ht : t.size ≤ 60) (x : Int) (hx : x ≠ 0) (hp : parseMTN s = (0, 0, x)) :
    Calls Tryd.prog 3 #[.string s, .string t] w fun e w' => e = .returned (.bool true) ∧ Below w.heap.size w w' := by
  have HM := hid (fun w' => curMT_any s t w' (by omega) (by omega))
  have HP := hid (fun w' => parseMT_any s w' (by omega))
  rw [hp] at HM HP
  have e1 : curN (0, 0, x) t.data.toList = (0, 0, x) := by simp [curN, hx]
  rw [e1] at HM
  dsimp only at HM HP
  clear hp e1
  have hxb : (x != 0) = true := by simp [hx]
  go_enter Tryd.func3, Tryd.ntmps3
  go_wp2_with fail
  with_reducible refine (HM.out _).mono ?_
  rintro e w1 ⟨rfl, h1⟩
  have N1 := hid (((Now.start w).below h1).box false 0 0 24)
  clear h1
  go_wp2_with fail
  with_reducible refine (HP.out _).mono ?_
  rintro e w2 ⟨rfl, h2⟩
  have N2 := hid ((N1.out.below h2).box false 0 0 24)
  clear N1 h2
  go_wp2_with fail
  with_reducible refine (curwakes_any _).mono ?_
  rintro e w3 ⟨rfl, h3⟩
  go_wp2
  go_returns
  exact ⟨rfl, (N2.out.below h3).1⟩

set_option maxRecDepth 100000 in
set_option maxHeartbeats 8000000 in
theorem callBoth_good (s t : ByteArray) (c k : Nat) (w : World) (hT : Tab w) (hs : s.size ≤ 60) (ht : t.size ≤ 60) (hp : parseMTN s = ((c : Int), (k : Int), 0)) (hg : goodB false c k = true) (hz : (mtN false c k).1.size ≤ s.size) :
    Calls Tryd.prog 3 #[.string s, .string t] w fun e w' => e = .returned (.bool true) ∧ Below w.heap.size w w' := by
  have HT := hid hT
  obtain ⟨hx0, hx1⟩ := xml_back hg
  have hxs := xml_size hg _ hz
  have HM := hid (fun w' => curMT_any s t w' (by omega) (by omega))
  have HP := hid (fun w' => parseMT_any s w' (by omega))
  have HW := hid (fun w' ht' => xml_any false c k w' ht')
  have HX := hid (fun w' => curXML_any (xmlN false c k).1 t w' (by omega) (by omega))
  have HF := hid (fun w' => fits_any false c k t w' (by omega))
  rw [hp] at HM HP
  rw [hx1] at HX
  rw [hx0] at HW
  generalize (xmlN false (c : Int) (k : Int)).1 = y at HW HX
  have hcur : ∀ f, fitsV false c k t.data.toList = f → (f = 0 ∧ curN ((c : Int), (k : Int), 0) t.data.toList = ((c : Int), (k : Int), 0) ∨ ¬ f = 0 ∧ curN ((c : Int), (k : Int), 0) t.data.toList = (0, 0, f)) := by
    intro f hf
    by_cases h : f = 0
    · exact .inl ⟨h, by simp [curN, hf, h]⟩
    · exact .inr ⟨h, by simp [curN, hf, h]⟩
  have hcur := hcur _ rfl
  generalize fitsV false c k t.data.toList = f at HF hcur
  clear hp hx0 hx1 hxs hz hg hT
  rcases hcur with ⟨rfl, hcur⟩ | ⟨hf0, hcur⟩
  · rw [hcur] at HM HX
    dsimp only at HM HX HP
    clear hcur
    go_enter Tryd.func3, Tryd.ntmps3
    go_wp2_with fail
    with_reducible refine (HM.out _).mono ?_
    rintro e w1 ⟨rfl, h1⟩
    have N1 := hid (((Now.start w).below h1).box false c k 24)
    clear h1
    go_wp2_with fail
    with_reducible refine (HP.out _).mono ?_
    rintro e w2 ⟨rfl, h2⟩
    have N2 := hid ((N1.out.below h2).box false c k 24)
    clear N1 h2
    obtain ⟨b1, ⟨z1, p1, p2, p3⟩, ⟨z2, q1, q2, q3⟩, _⟩ := N2.out
    go_wp2_with fail
    with_reducible refine (HW.out _ (HT.out.below b1)).mono ?_
    rintro e w3 ⟨rfl, h3⟩
    have N3 := hid (N2.out.below h3)
    clear b1 z1 p1 p2 p3 z2 q1 q2 q3 N2 h3
    go_wp2_with fail
    with_reducible refine (HX.out _).mono ?_
    rintro e w4 ⟨rfl, h4⟩
    have N4 := hid ((N3.out.below h4).box false c k 24)
    clear N3 h4
    obtain ⟨b1, ⟨z0, o1, o2, o3⟩, ⟨z1, p1, p2, p3⟩, ⟨z2, q1, q2, q3⟩, _⟩ := N4.out
    go_wp2_with fail
    with_reducible refine (HF.out _).mono ?_
    rintro e w5 ⟨rfl, h5⟩
    have N5 := hid (N4.out.below h5)
    clear b1 z0 o1 o2 o3 z1 p1 p2 p3 z2 q1 q2 q3 N4 h5
    go_wp2_with fail
    with_reducible refine (curwakes_any _).mono ?_
    rintro e w6 ⟨rfl, h6⟩
    go_wp2
    go_returns
    exact ⟨rfl, (N5.out.below h6).1⟩
  · have hfb : (f == 0) = false := by simpa using hf0
    rw [hcur] at HM HX
    dsimp only at HM HX HP
    clear hcur hf0
    go_enter Tryd.func3, Tryd.ntmps3
    go_wp2_with fail
    with_reducible refine (HM.out _).mono ?_
    rintro e w1 ⟨rfl, h1⟩
    have N1 := hid (((Now.start w).below h1).box false 0 0 24)
    clear h1
    go_wp2_with fail
    with_reducible refine (HP.out _).mono ?_
    rintro e w2 ⟨rfl, h2⟩
    have N2 := hid ((N1.out.below h2).box false c k 24)
    clear N1 h2
    obtain ⟨b1, ⟨z1, p1, p2, p3⟩, ⟨z2, q1, q2, q3⟩, _⟩ := N2.out
    go_wp2_with fail
    with_reducible refine (HW.out _ (HT.out.below b1)).mono ?_
    rintro e w3 ⟨rfl, h3⟩
    have N3 := hid (N2.out.below h3)
    clear b1 z1 p1 p2 p3 z2 q1 q2 q3 N2 h3
    go_wp2_with fail
    with_reducible refine (HX.out _).mono ?_
    rintro e w4 ⟨rfl, h4⟩
    have N4 := hid ((N3.out.below h4).box false 0 0 24)
    clear N3 h4
    obtain ⟨b1, ⟨z0, o1, o2, o3⟩, ⟨z1, p1, p2, p3⟩, ⟨z2, q1, q2, q3⟩, _⟩ := N4.out
    go_wp2_with fail
    with_reducible refine (HF.out _).mono ?_
    rintro e w5 ⟨rfl, h5⟩
    have N5 := hid (N4.out.below h5)
    clear b1 z0 o1 o2 o3 z1 p1 p2 p3 z2 q1 q2 q3 N4 h5
    go_wp2_with fail
    with_reducible refine (curwakes_any _).mono ?_
    rintro e w6 ⟨rfl, h6⟩
    go_wp2
    go_returns
    exact ⟨rfl, (N5.out.below h6).1⟩

theorem callBoth_any (s : ByteArray) (hs : s.size ≤ 9223372036854775807) (t : ByteArray) (ht : t.size ≤ 9223372036854775807) (w : World) (hT : Tab w) :
    Calls Tryd.prog 3 #[.string s, .string t] w fun e w' => e = .returned (.bool true) ∧ Below w.heap.size w w' := by
  by_cases h1 : s.size ≤ 60
  · by_cases h2 : t.size ≤ 60
    · rcases parseMTN_cases s with ⟨c, k, hp, hg, hz⟩ | ⟨x, hp, hx⟩
      · exact callBoth_good s t c k w hT h1 h2 hp hg hz
      · exact callBoth_none s t w h1 h2 x hx hp
    · exact callBoth_long s t w hs ht (.inr ⟨h1, by omega⟩)
  · exact callBoth_long s t w hs ht (.inl (by omega))
end Go.Proofs.YtjpndajbkemnlaaDoor
