/-
  The document's own reading of amounts.
-/
import Derived.Test.YtjpndajbkemnlaaRefF
import Derived.Test.YtjpndajbkemnlaaRefS
import Derived.Test.YtjpndajbkemnlaaCurP
namespace Go.Proofs.Ytjpndajbkemnlaa
open Go.RowKit Go.Shelf

set_option maxHeartbeats 1000000 in
theorem refcurMT_err (s t : ByteArray) (w : World) (c k e0 : Int) (he : ¬ e0 = 0) (hp : ∀ w', Calls Try.prog 22 #[.string s, .bool true] w' fun e w2 => e = .returned (numV false c k e0) ∧ Below w'.heap.size w' w2) :
    Calls Try.prog 10 #[.string s, .string t, .bool true] w fun e w' => e = .returned (numV false 0 0 e0) ∧ Below w.heap.size w w' := by
  have HP := hid hp
  clear hp
  go_enter Try.func10, Try.ntmps10
  go_wp2_with fail
  with_reducible refine (HP.out _).mono ?_
  rintro e w1 ⟨rfl, h1⟩
  obtain ⟨hc, hf⟩ := bcell (h1.alloc h1.size (.cells #[.bool false, .int .i64 c, .int .i64 k] 23))
  have hz := h1.size
  rw [World.size_alloc] at hz
  have b1 : Below w.heap.size w w1 := ((Below.refl _ _).alloc (Nat.le_refl _) _).trans (h1.mono (by simp))
  go_wp2
  refine bodyPost_ret (v := numV false 0 0 e0) (by simp [results, Try.results10, go_sem, *]) rfl ⟨rfl, ?_⟩
  go_grown

set_option maxHeartbeats 1000000 in
theorem refcurMT_misfit (s t : ByteArray) (w : World) (c k f : Int) (hf0 : ¬ f = 0) (hf1 : fitsV false c k t.data.toList = f) (hs : t.size ≤ 9223372036854775807)
    (hp : ∀ w', Calls Try.prog 22 #[.string s, .bool true] w' fun e w2 => e = .returned (numV false c k 0) ∧ Below w'.heap.size w' w2) :
    Calls Try.prog 10 #[.string s, .string t, .bool true] w fun e w' => e = .returned (numV false 0 0 f) ∧ Below w.heap.size w w' := by
  have HP := hid hp
  have HF := hid hf1
  clear hp hf1
  go_enter Try.func10, Try.ntmps10
  go_wp2_with fail
  with_reducible refine (HP.out _).mono ?_
  rintro e w1 ⟨rfl, h1⟩
  have hz := h1.size
  rw [World.size_alloc] at hz
  have b1 : Below w.heap.size w w1 := ((Below.refl _ _).alloc (Nat.le_refl _) _).trans (h1.mono (by simp))
  go_wp2_with fail
  with_reducible refine (refFits_any _ _ _ t _ hs).mono ?_
  rintro e w2 ⟨rfl, h2⟩
  rw [HF.out]
  have h12 := ((Below.refl (w.alloc (.cells #[.bool false, .int .i64 0, .int .i64 0] 23)).heap.size w1).alloc h1.size (.cells #[.bool false, .int .i64 c, .int .i64 k] 23)).trans (h2.mono (by simp; omega))
  obtain ⟨hc, hf⟩ := bcell (h1.trans h12)
  have b2 : Below w.heap.size w w2 := b1.trans (((Below.refl _ _).alloc (by omega) _).trans (h2.mono (by simp; omega)))
  have hz2 := h2.size
  rw [World.size_alloc] at hz2
  clear h12 h1 h2
  go_wp2
  refine bodyPost_ret (v := numV false 0 0 f) (by simp [results, Try.results10, go_sem, *]) rfl ⟨rfl, ?_⟩
  go_grown

set_option maxHeartbeats 1000000 in
theorem refcurMT_ok (s t : ByteArray) (w : World) (c k : Int) (hf1 : fitsV false c k t.data.toList = 0) (hs : t.size ≤ 9223372036854775807)
    (hp : ∀ w', Calls Try.prog 22 #[.string s, .bool true] w' fun e w2 => e = .returned (numV false c k 0) ∧ Below w'.heap.size w' w2) :
    Calls Try.prog 10 #[.string s, .string t, .bool true] w fun e w' => e = .returned (numV false c k 0) ∧ Below w.heap.size w w' := by
  have HP := hid hp
  have HF := hid hf1
  clear hp hf1
  go_enter Try.func10, Try.ntmps10
  go_wp2_with fail
  with_reducible refine (HP.out _).mono ?_
  rintro e w1 ⟨rfl, h1⟩
  have hz := h1.size
  rw [World.size_alloc] at hz
  have b1 : Below w.heap.size w w1 := ((Below.refl _ _).alloc (Nat.le_refl _) _).trans (h1.mono (by simp))
  go_wp2_with fail
  with_reducible refine (refFits_any _ _ _ t _ hs).mono ?_
  rintro e w2 ⟨rfl, h2⟩
  rw [HF.out]
  have h12 := ((Below.refl (w.alloc (.cells #[.bool false, .int .i64 0, .int .i64 0] 23)).heap.size w1).alloc h1.size (.cells #[.bool false, .int .i64 c, .int .i64 k] 23)).trans (h2.mono (by simp; omega))
  obtain ⟨hc, hf⟩ := bcell (h1.trans h12)
  obtain ⟨hzn, a0, a1, a2⟩ := (BoxNum.new w1 false c k 23).below h2
  have b2 : Below w.heap.size w w2 := b1.trans (((Below.refl _ _).alloc (by omega) _).trans (h2.mono (by simp; omega)))
  have hz2 := h2.size
  rw [World.size_alloc] at hz2
  clear h12 h1 h2
  go_wp2
  refine bodyPost_ret (v := numV false c k 0) (by simp [results, Try.results10, go_sem, *]) rfl ⟨rfl, ?_⟩
  go_grown

theorem refcurMT (s t : ByteArray) (w : World) (p : Int × Int × Int) (hs : t.size ≤ 9223372036854775807)
    (hp : ∀ w', Calls Try.prog 22 #[.string s, .bool true] w' fun e w2 => e = .returned (numV false p.1 p.2.1 p.2.2) ∧ Below w'.heap.size w' w2) :
    Calls Try.prog 10 #[.string s, .string t, .bool true] w fun e w' =>
      e = .returned (numV false (curN p t.data.toList).1 (curN p t.data.toList).2.1 (curN p t.data.toList).2.2) ∧ Below w.heap.size w w' := by
  obtain ⟨c, k, e0⟩ := p
  by_cases he : e0 = 0
  · subst he
    by_cases hf : fitsV false c k t.data.toList = 0
    · have e1 : curN (c, k, 0) t.data.toList = (c, k, 0) := by simp [curN, hf]
      rw [e1]
      exact refcurMT_ok s t w c k hf hs hp
    · have e1 : curN (c, k, 0) t.data.toList = (0, 0, fitsV false c k t.data.toList) := by simp [curN, hf]
      rw [e1]
      exact refcurMT_misfit s t w c k _ hf rfl hs hp
  · have e1 : curN (c, k, e0) t.data.toList = (0, 0, e0) := by simp [curN, he]
    rw [e1]
    exact refcurMT_err s t w c k e0 he hp

theorem refcurMT_any (s t : ByteArray) (w : World) (hs : s.size ≤ 60) (ht : t.size ≤ 9223372036854775807) :
    Calls Try.prog 10 #[.string s, .string t, .bool true] w fun e w' =>
      e = .returned (numV false (curN (parseMTN s) t.data.toList).1 (curN (parseMTN s) t.data.toList).2.1 (curN (parseMTN s) t.data.toList).2.2) ∧ Below w.heap.size w w' :=
  refcurMT s t w (parseMTN s) ht (fun w' => refParse_mt_any s w' hs)

set_option maxHeartbeats 1000000 in
theorem refcurXML_err (s t : ByteArray) (w : World) (c k e0 : Int) (he : ¬ e0 = 0) (hp : ∀ w', Calls Try.prog 22 #[.string s, .bool false] w' fun e w2 => e = .returned (numV false c k e0) ∧ Below w'.heap.size w' w2) :
    Calls Try.prog 10 #[.string s, .string t, .bool false] w fun e w' => e = .returned (numV false 0 0 e0) ∧ Below w.heap.size w w' := by
  have HP := hid hp
  clear hp
  go_enter Try.func10, Try.ntmps10
  go_wp2_with fail
  with_reducible refine (HP.out _).mono ?_
  rintro e w1 ⟨rfl, h1⟩
  obtain ⟨hc, hf⟩ := bcell (h1.alloc h1.size (.cells #[.bool false, .int .i64 c, .int .i64 k] 23))
  have hz := h1.size
  rw [World.size_alloc] at hz
  have b1 : Below w.heap.size w w1 := ((Below.refl _ _).alloc (Nat.le_refl _) _).trans (h1.mono (by simp))
  go_wp2
  refine bodyPost_ret (v := numV false 0 0 e0) (by simp [results, Try.results10, go_sem, *]) rfl ⟨rfl, ?_⟩
  go_grown

set_option maxHeartbeats 1000000 in
theorem refcurXML_misfit (s t : ByteArray) (w : World) (c k f : Int) (hf0 : ¬ f = 0) (hf1 : fitsV false c k t.data.toList = f) (hs : t.size ≤ 9223372036854775807)
    (hp : ∀ w', Calls Try.prog 22 #[.string s, .bool false] w' fun e w2 => e = .returned (numV false c k 0) ∧ Below w'.heap.size w' w2) :
    Calls Try.prog 10 #[.string s, .string t, .bool false] w fun e w' => e = .returned (numV false 0 0 f) ∧ Below w.heap.size w w' := by
  have HP := hid hp
  have HF := hid hf1
  clear hp hf1
  go_enter Try.func10, Try.ntmps10
  go_wp2_with fail
  with_reducible refine (HP.out _).mono ?_
  rintro e w1 ⟨rfl, h1⟩
  have hz := h1.size
  rw [World.size_alloc] at hz
  have b1 : Below w.heap.size w w1 := ((Below.refl _ _).alloc (Nat.le_refl _) _).trans (h1.mono (by simp))
  go_wp2_with fail
  with_reducible refine (refFits_any _ _ _ t _ hs).mono ?_
  rintro e w2 ⟨rfl, h2⟩
  rw [HF.out]
  have h12 := ((Below.refl (w.alloc (.cells #[.bool false, .int .i64 0, .int .i64 0] 23)).heap.size w1).alloc h1.size (.cells #[.bool false, .int .i64 c, .int .i64 k] 23)).trans (h2.mono (by simp; omega))
  obtain ⟨hc, hf⟩ := bcell (h1.trans h12)
  have b2 : Below w.heap.size w w2 := b1.trans (((Below.refl _ _).alloc (by omega) _).trans (h2.mono (by simp; omega)))
  have hz2 := h2.size
  rw [World.size_alloc] at hz2
  clear h12 h1 h2
  go_wp2
  refine bodyPost_ret (v := numV false 0 0 f) (by simp [results, Try.results10, go_sem, *]) rfl ⟨rfl, ?_⟩
  go_grown

set_option maxHeartbeats 1000000 in
theorem refcurXML_ok (s t : ByteArray) (w : World) (c k : Int) (hf1 : fitsV false c k t.data.toList = 0) (hs : t.size ≤ 9223372036854775807)
    (hp : ∀ w', Calls Try.prog 22 #[.string s, .bool false] w' fun e w2 => e = .returned (numV false c k 0) ∧ Below w'.heap.size w' w2) :
    Calls Try.prog 10 #[.string s, .string t, .bool false] w fun e w' => e = .returned (numV false c k 0) ∧ Below w.heap.size w w' := by
  have HP := hid hp
  have HF := hid hf1
  clear hp hf1
  go_enter Try.func10, Try.ntmps10
  go_wp2_with fail
  with_reducible refine (HP.out _).mono ?_
  rintro e w1 ⟨rfl, h1⟩
  have hz := h1.size
  rw [World.size_alloc] at hz
  have b1 : Below w.heap.size w w1 := ((Below.refl _ _).alloc (Nat.le_refl _) _).trans (h1.mono (by simp))
  go_wp2_with fail
  with_reducible refine (refFits_any _ _ _ t _ hs).mono ?_
  rintro e w2 ⟨rfl, h2⟩
  rw [HF.out]
  have h12 := ((Below.refl (w.alloc (.cells #[.bool false, .int .i64 0, .int .i64 0] 23)).heap.size w1).alloc h1.size (.cells #[.bool false, .int .i64 c, .int .i64 k] 23)).trans (h2.mono (by simp; omega))
  obtain ⟨hc, hf⟩ := bcell (h1.trans h12)
  obtain ⟨hzn, a0, a1, a2⟩ := (BoxNum.new w1 false c k 23).below h2
  have b2 : Below w.heap.size w w2 := b1.trans (((Below.refl _ _).alloc (by omega) _).trans (h2.mono (by simp; omega)))
  have hz2 := h2.size
  rw [World.size_alloc] at hz2
  clear h12 h1 h2
  go_wp2
  refine bodyPost_ret (v := numV false c k 0) (by simp [results, Try.results10, go_sem, *]) rfl ⟨rfl, ?_⟩
  go_grown

theorem refcurXML (s t : ByteArray) (w : World) (p : Int × Int × Int) (hs : t.size ≤ 9223372036854775807)
    (hp : ∀ w', Calls Try.prog 22 #[.string s, .bool false] w' fun e w2 => e = .returned (numV false p.1 p.2.1 p.2.2) ∧ Below w'.heap.size w' w2) :
    Calls Try.prog 10 #[.string s, .string t, .bool false] w fun e w' =>
      e = .returned (numV false (curN p t.data.toList).1 (curN p t.data.toList).2.1 (curN p t.data.toList).2.2) ∧ Below w.heap.size w w' := by
  obtain ⟨c, k, e0⟩ := p
  by_cases he : e0 = 0
  · subst he
    by_cases hf : fitsV false c k t.data.toList = 0
    · have e1 : curN (c, k, 0) t.data.toList = (c, k, 0) := by simp [curN, hf]
      rw [e1]
      exact refcurXML_ok s t w c k hf hs hp
    · have e1 : curN (c, k, 0) t.data.toList = (0, 0, fitsV false c k t.data.toList) := by simp [curN, hf]
      rw [e1]
      exact refcurXML_misfit s t w c k _ hf rfl hs hp
  · have e1 : curN (c, k, e0) t.data.toList = (0, 0, e0) := by simp [curN, he]
    rw [e1]
    exact refcurXML_err s t w c k e0 he hp

theorem refcurXML_any (s t : ByteArray) (w : World) (hs : s.size ≤ 60) (ht : t.size ≤ 9223372036854775807) :
    Calls Try.prog 10 #[.string s, .string t, .bool false] w fun e w' =>
      e = .returned (numV false (curN (parseXMLN s) t.data.toList).1 (curN (parseXMLN s) t.data.toList).2.1 (curN (parseXMLN s) t.data.toList).2.2) ∧ Below w.heap.size w w' :=
  refcurXML s t w (parseXMLN s) ht (fun w' => refParse_xml_any s w' hs)
end Go.Proofs.Ytjpndajbkemnlaa
