/-
  Amounts' texts: fitting, read, ParseMT, ParseXML of package currency.
-/
import Derived.Test.YtjpndajbkemnlaaDoorFits
import Derived.Test.YtjpndajbkemnlaaDoorRead
namespace Go.Proofs.YtjpndajbkemnlaaDoor
open Go.RowKit Go.Shelf

set_option maxHeartbeats 400000 in
theorem fitting1_any (g : Bool) (c s : Int) (n : Nat) (t : ByteArray) (w : World) (hs : t.size ≤ 9223372036854775807) (hn : w.cell? ⟨n, 0, none⟩ = some (.string t)) :
    Calls Tryd.prog 23 #[.agg #[.bool g, .int .i64 c, .int .i64 s], .pointer (some ⟨n, 0, none⟩)] w fun e w' => e = .returned (.int .i64 (fitsV g c s t.data.toList)) ∧ Below w.heap.size w w' := by
  have hn' : ∀ o, (w.alloc o).cell? ⟨n, 0, none⟩ = some (.string t) := fun o => cell_later ((Below.refl _ _).alloc (Nat.le_refl _) _) hn
  clear hn
  go_enter Tryd.func23, Tryd.ntmps23
  go_wp2_with fail
  with_reducible refine (fits_any _ _ _ t _ hs).mono ?_
  rintro e w1 ⟨rfl, h1⟩
  have b1 : Below w.heap.size w w1 := ((Below.refl _ w).alloc (Nat.le_refl _) _).trans (h1.mono (by simp))
  go_wp2
  go_returns
  exact ⟨rfl, b1⟩

set_option maxHeartbeats 400000 in
theorem fitting_any (t : ByteArray) (w : World) :
    Calls Tryd.prog 13 #[.string t] w fun e w' => e = .returned (.func (.func 23) #[] #[.pointer (some ⟨w.heap.size, 0, none⟩)]) ∧ w' = w.alloc (.cells #[.string t] 9) := by
  go_enter Tryd.func13, Tryd.ntmps13
  go_wp2
  go_returns
  exact ⟨rfl, rfl⟩

/-- What reading an amount tells, of what its number is read as. -/
def curN (p : Int × Int × Int) (l : List UInt8) : Int × Int × Int :=
  if p.2.2 = 0 then (if fitsV false p.1 p.2.1 l = 0 then (p.1, p.2.1, 0) else (0, 0, fitsV false p.1 p.2.1 l)) else (0, 0, p.2.2)

set_option maxHeartbeats 1000000 in
theorem curreadMT_err (s : ByteArray) (n : Nat) (w : World) (c k e0 : Int) (he : ¬ e0 = 0) (hp : ∀ w', Calls Tryd.prog 6 #[.string s] w' fun e w2 => e = .returned (numV false c k e0) ∧ Below w'.heap.size w' w2) :
    Calls Tryd.prog 12 #[.string s, .func (.func 6) #[] #[], .func (.func 23) #[] #[.pointer (some ⟨n, 0, none⟩)]] w fun e w' => e = .returned (numV false 0 0 e0) ∧ Below w.heap.size w w' := by
  have HP := hid hp
  clear hp
  go_enter Tryd.func12, Tryd.ntmps12
  go_wp2_with fail
  with_reducible refine (HP.out _).mono ?_
  rintro e w1 ⟨rfl, h1⟩
  obtain ⟨hc, hf⟩ := bcell (h1.alloc h1.size (.cells #[.bool false, .int .i64 c, .int .i64 k] 24))
  have hz := h1.size
  rw [World.size_alloc] at hz
  have b1 : Below w.heap.size w w1 := ((Below.refl _ _).alloc (Nat.le_refl _) _).trans (h1.mono (by simp))
  go_wp2
  refine bodyPost_ret (v := numV false 0 0 e0) (by simp [results, Tryd.results12, go_sem, *]) rfl ⟨rfl, ?_⟩
  go_grown

set_option maxHeartbeats 1000000 in
theorem curreadMT_misfit (s t : ByteArray) (n : Nat) (w : World) (c k f : Int) (hf0 : ¬ f = 0) (hf1 : fitsV false c k t.data.toList = f) (hs : t.size ≤ 9223372036854775807) (hn : w.cell? ⟨n, 0, none⟩ = some (.string t)) (hnw : n < w.heap.size)
    (hp : ∀ w', Calls Tryd.prog 6 #[.string s] w' fun e w2 => e = .returned (numV false c k 0) ∧ Below w'.heap.size w' w2) :
    Calls Tryd.prog 12 #[.string s, .func (.func 6) #[] #[], .func (.func 23) #[] #[.pointer (some ⟨n, 0, none⟩)]] w fun e w' => e = .returned (numV false 0 0 f) ∧ Below w.heap.size w w' := by
  have HP := hid hp
  have HF := hid hf1
  clear hp hf1
  go_enter Tryd.func12, Tryd.ntmps12
  go_wp2_with fail
  with_reducible refine (HP.out _).mono ?_
  rintro e w1 ⟨rfl, h1⟩
  have hz := h1.size
  rw [World.size_alloc] at hz
  have b1 : Below w.heap.size w w1 := ((Below.refl _ _).alloc (Nat.le_refl _) _).trans (h1.mono (by simp))
  have HN : Hid (∀ o, (w1.alloc o).cell? ⟨n, 0, none⟩ = some (.string t)) := fun o => (((b1.alloc b1.size o)).cell (p := ⟨n, 0, none⟩) hnw).trans hn
  clear hn
  go_wp2_with fail
  with_reducible refine (fitting1_any _ _ _ n t _ hs (HN.out _)).mono ?_
  rintro e w2 ⟨rfl, h2⟩
  rw [HF.out]
  have h12 := ((Below.refl (w.alloc (.cells #[.bool false, .int .i64 0, .int .i64 0] 24)).heap.size w1).alloc h1.size (.cells #[.bool false, .int .i64 c, .int .i64 k] 24)).trans (h2.mono (by simp; omega))
  obtain ⟨hc, hf⟩ := bcell (h1.trans h12)
  have b2 : Below w.heap.size w w2 := b1.trans (((Below.refl _ _).alloc (by omega) _).trans (h2.mono (by simp; omega)))
  have hz2 := h2.size
  rw [World.size_alloc] at hz2
  clear h12 h1 h2
  go_wp2
  refine bodyPost_ret (v := numV false 0 0 f) (by simp [results, Tryd.results12, go_sem, *]) rfl ⟨rfl, ?_⟩
  go_grown

set_option maxHeartbeats 1000000 in
theorem curreadMT_ok (s t : ByteArray) (n : Nat) (w : World) (c k : Int) (hf1 : fitsV false c k t.data.toList = 0) (hs : t.size ≤ 9223372036854775807) (hn : w.cell? ⟨n, 0, none⟩ = some (.string t)) (hnw : n < w.heap.size)
    (hp : ∀ w', Calls Tryd.prog 6 #[.string s] w' fun e w2 => e = .returned (numV false c k 0) ∧ Below w'.heap.size w' w2) :
    Calls Tryd.prog 12 #[.string s, .func (.func 6) #[] #[], .func (.func 23) #[] #[.pointer (some ⟨n, 0, none⟩)]] w fun e w' => e = .returned (numV false c k 0) ∧ Below w.heap.size w w' := by
  have HP := hid hp
  have HF := hid hf1
  clear hp hf1
  go_enter Tryd.func12, Tryd.ntmps12
  go_wp2_with fail
  with_reducible refine (HP.out _).mono ?_
  rintro e w1 ⟨rfl, h1⟩
  have hz := h1.size
  rw [World.size_alloc] at hz
  have b1 : Below w.heap.size w w1 := ((Below.refl _ _).alloc (Nat.le_refl _) _).trans (h1.mono (by simp))
  have HN : Hid (∀ o, (w1.alloc o).cell? ⟨n, 0, none⟩ = some (.string t)) := fun o => (((b1.alloc b1.size o)).cell (p := ⟨n, 0, none⟩) hnw).trans hn
  clear hn
  go_wp2_with fail
  with_reducible refine (fitting1_any _ _ _ n t _ hs (HN.out _)).mono ?_
  rintro e w2 ⟨rfl, h2⟩
  rw [HF.out]
  have h12 := ((Below.refl (w.alloc (.cells #[.bool false, .int .i64 0, .int .i64 0] 24)).heap.size w1).alloc h1.size (.cells #[.bool false, .int .i64 c, .int .i64 k] 24)).trans (h2.mono (by simp; omega))
  obtain ⟨hc, hf⟩ := bcell (h1.trans h12)
  obtain ⟨hzn, a0, a1, a2⟩ := (BoxNum.new w1 false c k 24).below h2
  have b2 : Below w.heap.size w w2 := b1.trans (((Below.refl _ _).alloc (by omega) _).trans (h2.mono (by simp; omega)))
  have hz2 := h2.size
  rw [World.size_alloc] at hz2
  clear h12 h1 h2
  go_wp2
  refine bodyPost_ret (v := numV false c k 0) (by simp [results, Tryd.results12, go_sem, *]) rfl ⟨rfl, ?_⟩
  go_grown

theorem curreadMT (s t : ByteArray) (n : Nat) (w : World) (p : Int × Int × Int) (hs : t.size ≤ 9223372036854775807) (hn : w.cell? ⟨n, 0, none⟩ = some (.string t)) (hnw : n < w.heap.size)
    (hp : ∀ w', Calls Tryd.prog 6 #[.string s] w' fun e w2 => e = .returned (numV false p.1 p.2.1 p.2.2) ∧ Below w'.heap.size w' w2) :
    Calls Tryd.prog 12 #[.string s, .func (.func 6) #[] #[], .func (.func 23) #[] #[.pointer (some ⟨n, 0, none⟩)]] w fun e w' =>
      e = .returned (numV false (curN p t.data.toList).1 (curN p t.data.toList).2.1 (curN p t.data.toList).2.2) ∧ Below w.heap.size w w' := by
  obtain ⟨c, k, e0⟩ := p
  by_cases he : e0 = 0
  · subst he
    by_cases hf : fitsV false c k t.data.toList = 0
    · have e1 : curN (c, k, 0) t.data.toList = (c, k, 0) := by simp [curN, hf]
      rw [e1]
      exact curreadMT_ok s t n w c k hf hs hn hnw hp
    · have e1 : curN (c, k, 0) t.data.toList = (0, 0, fitsV false c k t.data.toList) := by simp [curN, hf]
      rw [e1]
      exact curreadMT_misfit s t n w c k _ hf rfl hs hn hnw hp
  · have e1 : curN (c, k, e0) t.data.toList = (0, 0, e0) := by simp [curN, he]
    rw [e1]
    exact curreadMT_err s n w c k e0 he hp

set_option maxHeartbeats 1000000 in
theorem curMT_any (s t : ByteArray) (w : World) (hs : s.size ≤ 140737488355328) (ht : t.size ≤ 9223372036854775807) :
    Calls Tryd.prog 5 #[.string s, .string t] w fun e w' =>
      e = .returned (numV false (curN (parseMTN s) t.data.toList).1 (curN (parseMTN s) t.data.toList).2.1 (curN (parseMTN s) t.data.toList).2.2) ∧ Below w.heap.size w w' := by
  have HR := hid fun (n : Nat) (w' : World) (hn : w'.cell? ⟨n, 0, none⟩ = some (.string t)) (hnw : n < w'.heap.size) => curreadMT s t n w' (parseMTN s) ht hn hnw (fun w2 => parseMT_any s w2 hs)
  generalize curN (parseMTN s) t.data.toList = v at HR ⊢
  obtain ⟨vc, vs, ve⟩ := v
  dsimp only at HR ⊢
  go_enter Tryd.func5, Tryd.ntmps5
  go_wp2_with (go_at_call 13; with_reducible refine (fitting_any _ _).mono ?_; rintro e w1 ⟨rfl, rfl⟩)
  have hcell : ((w.alloc (.cells #[.bool false, .int .i64 0, .int .i64 0] 24)).alloc (.cells #[.string t] 9)).cell? ⟨w.heap.size + 1, 0, none⟩ = some (.string t) := by
    have := new_cell (w.alloc (.cells #[.bool false, .int .i64 0, .int .i64 0] 24)) (.string t) 9
    rwa [World.size_alloc] at this
  refine (HR.out (w.heap.size + 1) _ hcell (by simp)).mono ?_
  rintro e w2 ⟨rfl, h2⟩
  clear hcell HR
  obtain ⟨hc, hf⟩ := bcell h2
  have hz := h2.size
  simp only [World.size_alloc] at hz
  obtain ⟨hzn, a0, a1, a2⟩ := ((BoxNum.new w false 0 0 24).alloc (.cells #[.string t] 9)).below h2
  have b1 : Below w.heap.size w w2 := (((Below.refl _ _).alloc (Nat.le_refl _) _).alloc (by simp) _).trans (h2.mono (by simp; omega))
  go_wp2
  refine bodyPost_ret (v := numV false vc vs ve) (by simp [results, Tryd.results5, go_sem, *]) rfl ⟨rfl, ?_⟩
  go_grown

set_option maxHeartbeats 1000000 in
theorem curreadXML_err (s : ByteArray) (n : Nat) (w : World) (c k e0 : Int) (he : ¬ e0 = 0) (hp : ∀ w', Calls Tryd.prog 17 #[.string s] w' fun e w2 => e = .returned (numV false c k e0) ∧ Below w'.heap.size w' w2) :
    Calls Tryd.prog 12 #[.string s, .func (.func 17) #[] #[], .func (.func 23) #[] #[.pointer (some ⟨n, 0, none⟩)]] w fun e w' => e = .returned (numV false 0 0 e0) ∧ Below w.heap.size w w' := by
  have HP := hid hp
  clear hp
  go_enter Tryd.func12, Tryd.ntmps12
  go_wp2_with fail
  with_reducible refine (HP.out _).mono ?_
  rintro e w1 ⟨rfl, h1⟩
  obtain ⟨hc, hf⟩ := bcell (h1.alloc h1.size (.cells #[.bool false, .int .i64 c, .int .i64 k] 24))
  have hz := h1.size
  rw [World.size_alloc] at hz
  have b1 : Below w.heap.size w w1 := ((Below.refl _ _).alloc (Nat.le_refl _) _).trans (h1.mono (by simp))
  go_wp2
  refine bodyPost_ret (v := numV false 0 0 e0) (by simp [results, Tryd.results12, go_sem, *]) rfl ⟨rfl, ?_⟩
  go_grown

set_option maxHeartbeats 1000000 in
theorem curreadXML_misfit (s t : ByteArray) (n : Nat) (w : World) (c k f : Int) (hf0 : ¬ f = 0) (hf1 : fitsV false c k t.data.toList = f) (hs : t.size ≤ 9223372036854775807) (hn : w.cell? ⟨n, 0, none⟩ = some (.string t)) (hnw : n < w.heap.size)
    (hp : ∀ w', Calls Tryd.prog 17 #[.string s] w' fun e w2 => e = .returned (numV false c k 0) ∧ Below w'.heap.size w' w2) :
    Calls Tryd.prog 12 #[.string s, .func (.func 17) #[] #[], .func (.func 23) #[] #[.pointer (some ⟨n, 0, none⟩)]] w fun e w' => e = .returned (numV false 0 0 f) ∧ Below w.heap.size w w' := by
  have HP := hid hp
  have HF := hid hf1
  clear hp hf1
  go_enter Tryd.func12, Tryd.ntmps12
  go_wp2_with fail
  with_reducible refine (HP.out _).mono ?_
  rintro e w1 ⟨rfl, h1⟩
  have hz := h1.size
  rw [World.size_alloc] at hz
  have b1 : Below w.heap.size w w1 := ((Below.refl _ _).alloc (Nat.le_refl _) _).trans (h1.mono (by simp))
  have HN : Hid (∀ o, (w1.alloc o).cell? ⟨n, 0, none⟩ = some (.string t)) := fun o => (((b1.alloc b1.size o)).cell (p := ⟨n, 0, none⟩) hnw).trans hn
  clear hn
  go_wp2_with fail
  with_reducible refine (fitting1_any _ _ _ n t _ hs (HN.out _)).mono ?_
  rintro e w2 ⟨rfl, h2⟩
  rw [HF.out]
  have h12 := ((Below.refl (w.alloc (.cells #[.bool false, .int .i64 0, .int .i64 0] 24)).heap.size w1).alloc h1.size (.cells #[.bool false, .int .i64 c, .int .i64 k] 24)).trans (h2.mono (by simp; omega))
  obtain ⟨hc, hf⟩ := bcell (h1.trans h12)
  have b2 : Below w.heap.size w w2 := b1.trans (((Below.refl _ _).alloc (by omega) _).trans (h2.mono (by simp; omega)))
  have hz2 := h2.size
  rw [World.size_alloc] at hz2
  clear h12 h1 h2
  go_wp2
  refine bodyPost_ret (v := numV false 0 0 f) (by simp [results, Tryd.results12, go_sem, *]) rfl ⟨rfl, ?_⟩
  go_grown

set_option maxHeartbeats 1000000 in
theorem curreadXML_ok (s t : ByteArray) (n : Nat) (w : World) (c k : Int) (hf1 : fitsV false c k t.data.toList = 0) (hs : t.size ≤ 9223372036854775807) (hn : w.cell? ⟨n, 0, none⟩ = some (.string t)) (hnw : n < w.heap.size)
    (hp : ∀ w', Calls Tryd.prog 17 #[.string s] w' fun e w2 => e = .returned (numV false c k 0) ∧ Below w'.heap.size w' w2) :
    Calls Tryd.prog 12 #[.string s, .func (.func 17) #[] #[], .func (.func 23) #[] #[.pointer (some ⟨n, 0, none⟩)]] w fun e w' => e = .returned (numV false c k 0) ∧ Below w.heap.size w w' := by
  have HP := hid hp
  have HF := hid hf1
  clear hp hf1
  go_enter Tryd.func12, Tryd.ntmps12
  go_wp2_with fail
  with_reducible refine (HP.out _).mono ?_
  rintro e w1 ⟨rfl, h1⟩
  have hz := h1.size
  rw [World.size_alloc] at hz
  have b1 : Below w.heap.size w w1 := ((Below.refl _ _).alloc (Nat.le_refl _) _).trans (h1.mono (by simp))
  have HN : Hid (∀ o, (w1.alloc o).cell? ⟨n, 0, none⟩ = some (.string t)) := fun o => (((b1.alloc b1.size o)).cell (p := ⟨n, 0, none⟩) hnw).trans hn
  clear hn
  go_wp2_with fail
  with_reducible refine (fitting1_any _ _ _ n t _ hs (HN.out _)).mono ?_
  rintro e w2 ⟨rfl, h2⟩
  rw [HF.out]
  have h12 := ((Below.refl (w.alloc (.cells #[.bool false, .int .i64 0, .int .i64 0] 24)).heap.size w1).alloc h1.size (.cells #[.bool false, .int .i64 c, .int .i64 k] 24)).trans (h2.mono (by simp; omega))
  obtain ⟨hc, hf⟩ := bcell (h1.trans h12)
  obtain ⟨hzn, a0, a1, a2⟩ := (BoxNum.new w1 false c k 24).below h2
  have b2 : Below w.heap.size w w2 := b1.trans (((Below.refl _ _).alloc (by omega) _).trans (h2.mono (by simp; omega)))
  have hz2 := h2.size
  rw [World.size_alloc] at hz2
  clear h12 h1 h2
  go_wp2
  refine bodyPost_ret (v := numV false c k 0) (by simp [results, Tryd.results12, go_sem, *]) rfl ⟨rfl, ?_⟩
  go_grown

theorem curreadXML (s t : ByteArray) (n : Nat) (w : World) (p : Int × Int × Int) (hs : t.size ≤ 9223372036854775807) (hn : w.cell? ⟨n, 0, none⟩ = some (.string t)) (hnw : n < w.heap.size)
    (hp : ∀ w', Calls Tryd.prog 17 #[.string s] w' fun e w2 => e = .returned (numV false p.1 p.2.1 p.2.2) ∧ Below w'.heap.size w' w2) :
    Calls Tryd.prog 12 #[.string s, .func (.func 17) #[] #[], .func (.func 23) #[] #[.pointer (some ⟨n, 0, none⟩)]] w fun e w' =>
      e = .returned (numV false (curN p t.data.toList).1 (curN p t.data.toList).2.1 (curN p t.data.toList).2.2) ∧ Below w.heap.size w w' := by
  obtain ⟨c, k, e0⟩ := p
  by_cases he : e0 = 0
  · subst he
    by_cases hf : fitsV false c k t.data.toList = 0
    · have e1 : curN (c, k, 0) t.data.toList = (c, k, 0) := by simp [curN, hf]
      rw [e1]
      exact curreadXML_ok s t n w c k hf hs hn hnw hp
    · have e1 : curN (c, k, 0) t.data.toList = (0, 0, fitsV false c k t.data.toList) := by simp [curN, hf]
      rw [e1]
      exact curreadXML_misfit s t n w c k _ hf rfl hs hn hnw hp
  · have e1 : curN (c, k, e0) t.data.toList = (0, 0, e0) := by simp [curN, he]
    rw [e1]
    exact curreadXML_err s n w c k e0 he hp

set_option maxHeartbeats 1000000 in
theorem curXML_any (s t : ByteArray) (w : World) (hs : s.size ≤ 140737488355328) (ht : t.size ≤ 9223372036854775807) :
    Calls Tryd.prog 8 #[.string s, .string t] w fun e w' =>
      e = .returned (numV false (curN (parseXMLN s) t.data.toList).1 (curN (parseXMLN s) t.data.toList).2.1 (curN (parseXMLN s) t.data.toList).2.2) ∧ Below w.heap.size w w' := by
  have HR := hid fun (n : Nat) (w' : World) (hn : w'.cell? ⟨n, 0, none⟩ = some (.string t)) (hnw : n < w'.heap.size) => curreadXML s t n w' (parseXMLN s) ht hn hnw (fun w2 => parseXML_any s w2 hs)
  generalize curN (parseXMLN s) t.data.toList = v at HR ⊢
  obtain ⟨vc, vs, ve⟩ := v
  dsimp only at HR ⊢
  go_enter Tryd.func8, Tryd.ntmps8
  go_wp2_with (go_at_call 13; with_reducible refine (fitting_any _ _).mono ?_; rintro e w1 ⟨rfl, rfl⟩)
  have hcell : ((w.alloc (.cells #[.bool false, .int .i64 0, .int .i64 0] 24)).alloc (.cells #[.string t] 9)).cell? ⟨w.heap.size + 1, 0, none⟩ = some (.string t) := by
    have := new_cell (w.alloc (.cells #[.bool false, .int .i64 0, .int .i64 0] 24)) (.string t) 9
    rwa [World.size_alloc] at this
  refine (HR.out (w.heap.size + 1) _ hcell (by simp)).mono ?_
  rintro e w2 ⟨rfl, h2⟩
  clear hcell HR
  obtain ⟨hc, hf⟩ := bcell h2
  have hz := h2.size
  simp only [World.size_alloc] at hz
  obtain ⟨hzn, a0, a1, a2⟩ := ((BoxNum.new w false 0 0 24).alloc (.cells #[.string t] 9)).below h2
  have b1 : Below w.heap.size w w2 := (((Below.refl _ _).alloc (Nat.le_refl _) _).alloc (by simp) _).trans (h2.mono (by simp; omega))
  go_wp2
  refine bodyPost_ret (v := numV false vc vs ve) (by simp [results, Tryd.results8, go_sem, *]) rfl ⟨rfl, ?_⟩
  go_grown
end Go.Proofs.YtjpndajbkemnlaaDoor
