/-
  The document's own answers: Parse.
-/
import Derived.Test.YtjpndajbkemnlaaRefN
namespace Go.Proofs.Ytjpndajbkemnlaa
open Go.RowKit Go.Shelf

theorem holds_of {w : World} {base : Nat} {v : Value} {s : ByteArray} (h0 : 0 < s.size) (h : w.ownsRow base 2 1 v s.size (dvals s s.size)) :
    ∃ g cap, v = .slice (some ⟨g, 0, none⟩) s.size cap ∧ Holds w g s := by
  have hc := h
  obtain ⟨_, ⟨_, hn⟩ | ⟨g, cap, cur, rfl, hg, hh, _⟩⟩ := h
  · omega
  · refine ⟨g, cap, rfl, ?_, fun k hk => ?_⟩
    · exact (Array.getElem?_eq_some_iff.1 hh).1
    · have := hc.cells (g := g) rfl k (.int .i64 ((s[k].toNat : Int) - 48)) (by
        rw [dvals, List.getElem?_map, List.getElem?_take_of_lt hk, byte_get s k hk]; rfl)
      cases k <;> simpa [Addr.add] using this
theorem cat_app (a b : ByteArray) : a ++ b = cat a b := by
  refine ba_eq ?_
  rw [cat_list]; simp
theorem allB_cat (a b : ByteArray) : allB (cat a b) = (allB a && allB b) := by
  rw [allB_list, allB_list, allB_list, cat_list, List.all_append]
theorem readN_bad {a b : ByteArray} (h : allB (cat a b) = false ∨ a.size = 0) : readN a b = (0, 0, 10) := by
  rw [readN, if_pos]
  rcases h with h | h
  · rw [allB_cat] at h
    cases h1 : allB a
    · exact .inr (.inl rfl)
    · rw [h1] at h; exact .inr (.inr (by simpa using h))
  · exact .inl h
theorem readN_num {a b : ByteArray} (h : allB (cat a b) = true) (h0 : a.size ≠ 0) : readN a b = numN (cat a b) b.size := by
  have h2 := h
  rw [allB_cat, Bool.and_eq_true] at h2
  rw [readN, if_neg (by rw [h2.1, h2.2]; simp [h0])]
  rfl

/-- What Parse tells. -/
def parseN (mt : Bool) (s : ByteArray) : Int × Int × Int := if mt then parseMTN s else parseXMLN s

/-- The result's block, and that no cell of it is frozen. -/
theorem res_new (w : World) : BoxNum (w.alloc (.cells #[.bool false, .int .i64 0, .int .i64 0] 23)) w.heap.size false 0 0 ∧ Unfrozen (w.alloc (.cells #[.bool false, .int .i64 0, .int .i64 0] 23)) w.heap.size :=
  ⟨BoxNum.new w false 0 0 _, fun i => by simp [go_sem]⟩

set_option maxRecDepth 1000000 in
set_option maxHeartbeats 3200000 in
theorem refParse_mt_none (s : ByteArray) (w : World) (hs : s.size ≤ 60) (hi : Lib.indexByte s.data.toList 44 = -1) (r : Int × Int × Int) (hr : r = (0, 0, 10)) :
    Calls Try.prog 22 #[.string s, .bool true] w fun e w' => e = .returned (numV false r.1 r.2.1 r.2.2) ∧ Below w.heap.size w w' := by
  have HC : Hid (∀ w' : World, Calls Try.prog 35 #[.string s, .int .u8 44] w' fun e w2 => e = .returned (.int .i64 (-1)) ∧ w' = w2) := by
    intro w'
    have := refCut_any s 44 w' (by omega)
    rw [hi] at this
    exact this
  have hsz : (s : ByteArray).size + (⟨#[]⟩ : ByteArray).size ≤ 100 := by
    show s.size + 0 ≤ _; omega
  have HR := hid (fun w' => refRead_any (cat s ⟨#[]⟩) w' (by rw [cat_size]; omega))
  have HZ := hid hr
  have HN := hid (res_new w)
  clear hi hr
  go_enter Try.func22, Try.ntmps22
  go_wp2_with fail
  with_reducible refine (HC.out _).mono ?_
  rintro e w1 ⟨rfl, rfl⟩
  go_wp2_with fail
  rw [cat_app]
  with_reducible refine (HR.out _).mono ?_
  rintro e w2 ⟨h2, ⟨hall, v, rfl, hown⟩ | ⟨hall, rfl⟩⟩
  all_goals
    have KR := hid (HN.out.1.below h2)
    have KF := hid (unfrozen_of h2 HN.out.1.1 HN.out.2)
    have hb2 := hid (((Below.refl _ w).alloc (Nat.le_refl _) (.cells #[.bool false, .int .i64 0, .int .i64 0] 23)).trans (h2.mono (by simp)))
    have HALL := hid hall
    clear hall h2
  rotate_left
  · have HE : Hid (r = (0, 0, 10)) := HZ.out
    obtain ⟨hz1, a0, a1, a2⟩ := KR.out
    have f0 := KF.out 0
    have f1 := KF.out 1
    have f2 := KF.out 2
    have hbb := hb2.out
    go_wp2
    refine bodyPost_ret (v := numV false 0 0 10) (by simp [results, Try.results22, go_sem, *]) rfl ⟨by rw [HE.out], ?_⟩
    go_grown
  · by_cases hz : (s : ByteArray).size = 0
    · have he := empty_of hz
      have HZ0 := hid hz
      clear hz
      have HE : Hid (r = (0, 0, 10)) := HZ.out
      obtain ⟨hz1, a0, a1, a2⟩ := KR.out
      have f0 := KF.out 0
      have f1 := KF.out 1
      have f2 := KF.out 2
      have hbb := hb2.out
      go_wp2
      refine bodyPost_ret (v := numV false 0 0 10) (by simp [results, Try.results22, go_sem, *]) rfl ⟨by rw [HE.out], ?_⟩
      go_grown
    · have he := nonempty_of hz
      have HZ0 := hid hz
      clear hz
      have HE : Hid (r = (0, 0, 10)) := HZ.out
      obtain ⟨hz1, a0, a1, a2⟩ := KR.out
      have f0 := KF.out 0
      have f1 := KF.out 1
      have f2 := KF.out 2
      have hbb := hb2.out
      go_wp2
      refine bodyPost_ret (v := numV false 0 0 10) (by simp [results, Try.results22, go_sem, *]) rfl ⟨by rw [HE.out], ?_⟩
      go_grown

set_option maxRecDepth 1000000 in
set_option maxHeartbeats 3200000 in
theorem refParse_mt_some (s : ByteArray) (w : World) (hs : s.size ≤ 60) (o : Nat) (hi : Lib.indexByte s.data.toList 44 = o) (ho : o < s.size) (r : Int × Int × Int) (hr : r = readN (s.extract 0 o) (s.extract (o + 1) s.size)) :
    Calls Try.prog 22 #[.string s, .bool true] w fun e w' => e = .returned (numV false r.1 r.2.1 r.2.2) ∧ Below w.heap.size w w' := by
  have HC : Hid (∀ w' : World, Calls Try.prog 35 #[.string s, .int .u8 44] w' fun e w2 => e = .returned (.int .i64 (o : Nat)) ∧ w' = w2) := by
    intro w'
    have := refCut_any s 44 w' (by omega)
    rw [hi] at this
    exact this
  have hsz : ((s.extract 0 o) : ByteArray).size + ((s.extract (o + 1) s.size) : ByteArray).size ≤ 100 := by
    have := extract_size s 0 o; have := extract_size s (o + 1) s.size; omega
  have HR := hid (fun w' => refRead_any (cat (s.extract 0 o) (s.extract (o + 1) s.size)) w' (by rw [cat_size]; omega))
  have HZ := hid hr
  have HN := hid (res_new w)
  clear hi hr
  go_enter Try.func22, Try.ntmps22
  go_wp2_with fail
  with_reducible refine (HC.out _).mono ?_
  rintro e w1 ⟨rfl, rfl⟩
  go_wp2_with fail
  rw [cat_app]
  with_reducible refine (HR.out _).mono ?_
  rintro e w2 ⟨h2, ⟨hall, v, rfl, hown⟩ | ⟨hall, rfl⟩⟩
  all_goals
    have KR := hid (HN.out.1.below h2)
    have KF := hid (unfrozen_of h2 HN.out.1.1 HN.out.2)
    have hb2 := hid (((Below.refl _ w).alloc (Nat.le_refl _) (.cells #[.bool false, .int .i64 0, .int .i64 0] 23)).trans (h2.mono (by simp)))
    have HALL := hid hall
    clear hall h2
  rotate_left
  · have HE : Hid (r = (0, 0, 10)) := HZ.out.trans (readN_bad (.inl HALL.out))
    obtain ⟨hz1, a0, a1, a2⟩ := KR.out
    have f0 := KF.out 0
    have f1 := KF.out 1
    have f2 := KF.out 2
    have hbb := hb2.out
    go_wp2
    refine bodyPost_ret (v := numV false 0 0 10) (by simp [results, Try.results22, go_sem, *]) rfl ⟨by rw [HE.out], ?_⟩
    go_grown
  · by_cases hz : ((s.extract 0 o) : ByteArray).size = 0
    · have he := empty_of hz
      have HZ0 := hid hz
      clear hz
      have HE : Hid (r = (0, 0, 10)) := HZ.out.trans (readN_bad (.inr HZ0.out))
      obtain ⟨hz1, a0, a1, a2⟩ := KR.out
      have f0 := KF.out 0
      have f1 := KF.out 1
      have f2 := KF.out 2
      have hbb := hb2.out
      go_wp2
      refine bodyPost_ret (v := numV false 0 0 10) (by simp [results, Try.results22, go_sem, *]) rfl ⟨by rw [HE.out], ?_⟩
      go_grown
    · have he := nonempty_of hz
      have HZ0 := hid hz
      clear hz
      obtain ⟨g, cap, rfl, hh⟩ := holds_of (s := cat (s.extract 0 o) (s.extract (o + 1) s.size)) (by rw [cat_size]; have := HZ0.out; omega) hown
      have HH := hid hh
      have HBS : Hid ((s.extract (o + 1) s.size).size = s.size - (o + 1)) := by show _ = _; rw [ByteArray.size_extract]; omega
      skip
      have HE : Hid (r = numN (cat (s.extract 0 o) (s.extract (o + 1) s.size)) (s.size - (o + 1))) := HZ.out.trans ((readN_num HALL.out HZ0.out).trans (by rw [HBS.out]))
      have HQ : Hid (∀ w' : World, Holds w' g (cat (s.extract 0 o) (s.extract (o + 1) s.size)) → Calls Try.prog 37 #[.slice (some ⟨g, 0, none⟩) (cat (s.extract 0 o) (s.extract (o + 1) s.size)).size cap, .int .i64 ((s.size - (o + 1) : Nat) : Int)] w' fun e w2 => e = .returned (numV false r.1 r.2.1 r.2.2) ∧ Below w'.heap.size w' w2) := by
        intro w' hg
        have := refNumber_any (cat (s.extract 0 o) (s.extract (o + 1) s.size)) (s.size - (o + 1)) g cap w' (by rw [cat_size]; omega) (by rw [cat_size]; have := HZ0.out; omega) (by have := hsz; omega) HALL.out hg
        rw [← HE.out] at this
        exact this
      clear hh hown
      obtain ⟨hz1, a0, a1, a2⟩ := KR.out
      have f0 := KF.out 0
      have f1 := KF.out 1
      have f2 := KF.out 2
      go_wp2_with fail
      with_reducible refine (HQ.out _ HH.out).mono ?_
      rintro e w3 ⟨rfl, h3⟩
      have JR := hid (KR.out.below h3)
      have JF := hid (unfrozen_of h3 KR.out.1 KF.out)
      have hb3 := hb2.out.trans (h3.mono hb2.out.size)
      clear hz1 a0 a1 a2 f0 f1 f2 h3
      obtain ⟨hz1, a0, a1, a2⟩ := JR.out
      have f0 := JF.out 0
      have f1 := JF.out 1
      have f2 := JF.out 2
      go_wp2
      refine bodyPost_ret (v := numV false r.1 r.2.1 r.2.2) (by simp [results, Try.results22, go_sem, *]) rfl ⟨rfl, ?_⟩
      go_grown

set_option maxRecDepth 1000000 in
set_option maxHeartbeats 3200000 in
theorem refParse_xml_none (s : ByteArray) (w : World) (hs : s.size ≤ 60) (hi : Lib.indexByte s.data.toList 46 = -1) (r : Int × Int × Int) (hr : r = readN s ⟨#[]⟩) :
    Calls Try.prog 22 #[.string s, .bool false] w fun e w' => e = .returned (numV false r.1 r.2.1 r.2.2) ∧ Below w.heap.size w w' := by
  have HC : Hid (∀ w' : World, Calls Try.prog 35 #[.string s, .int .u8 46] w' fun e w2 => e = .returned (.int .i64 (-1)) ∧ w' = w2) := by
    intro w'
    have := refCut_any s 46 w' (by omega)
    rw [hi] at this
    exact this
  have hsz : (s : ByteArray).size + (⟨#[]⟩ : ByteArray).size ≤ 100 := by
    show s.size + 0 ≤ _; omega
  have HR := hid (fun w' => refRead_any (cat s ⟨#[]⟩) w' (by rw [cat_size]; omega))
  have HZ := hid hr
  have HN := hid (res_new w)
  clear hi hr
  go_enter Try.func22, Try.ntmps22
  go_wp2_with fail
  with_reducible refine (HC.out _).mono ?_
  rintro e w1 ⟨rfl, rfl⟩
  go_wp2_with fail
  rw [cat_app]
  with_reducible refine (HR.out _).mono ?_
  rintro e w2 ⟨h2, ⟨hall, v, rfl, hown⟩ | ⟨hall, rfl⟩⟩
  all_goals
    have KR := hid (HN.out.1.below h2)
    have KF := hid (unfrozen_of h2 HN.out.1.1 HN.out.2)
    have hb2 := hid (((Below.refl _ w).alloc (Nat.le_refl _) (.cells #[.bool false, .int .i64 0, .int .i64 0] 23)).trans (h2.mono (by simp)))
    have HALL := hid hall
    clear hall h2
  rotate_left
  · have HE : Hid (r = (0, 0, 10)) := HZ.out.trans (readN_bad (.inl HALL.out))
    obtain ⟨hz1, a0, a1, a2⟩ := KR.out
    have f0 := KF.out 0
    have f1 := KF.out 1
    have f2 := KF.out 2
    have hbb := hb2.out
    go_wp2
    refine bodyPost_ret (v := numV false 0 0 10) (by simp [results, Try.results22, go_sem, *]) rfl ⟨by rw [HE.out], ?_⟩
    go_grown
  · by_cases hz : (s : ByteArray).size = 0
    · have he := empty_of hz
      have HZ0 := hid hz
      clear hz
      have HE : Hid (r = (0, 0, 10)) := HZ.out.trans (readN_bad (.inr HZ0.out))
      obtain ⟨hz1, a0, a1, a2⟩ := KR.out
      have f0 := KF.out 0
      have f1 := KF.out 1
      have f2 := KF.out 2
      have hbb := hb2.out
      go_wp2
      refine bodyPost_ret (v := numV false 0 0 10) (by simp [results, Try.results22, go_sem, *]) rfl ⟨by rw [HE.out], ?_⟩
      go_grown
    · have he := nonempty_of hz
      have HZ0 := hid hz
      clear hz
      obtain ⟨g, cap, rfl, hh⟩ := holds_of (s := cat s ⟨#[]⟩) (by rw [cat_size]; have := HZ0.out; omega) hown
      have HH := hid hh
      skip
      have HE : Hid (r = numN (cat s ⟨#[]⟩) 0) := HZ.out.trans (readN_num HALL.out HZ0.out)
      have HQ : Hid (∀ w' : World, Holds w' g (cat s ⟨#[]⟩) → Calls Try.prog 37 #[.slice (some ⟨g, 0, none⟩) (cat s ⟨#[]⟩).size cap, .int .i64 0] w' fun e w2 => e = .returned (numV false r.1 r.2.1 r.2.2) ∧ Below w'.heap.size w' w2) := by
        intro w' hg
        have := refNumber_any (cat s ⟨#[]⟩) 0 g cap w' (by rw [cat_size]; omega) (by rw [cat_size]; have := HZ0.out; omega) (by have := hsz; omega) HALL.out hg
        rw [← HE.out] at this
        exact this
      clear hh hown
      obtain ⟨hz1, a0, a1, a2⟩ := KR.out
      have f0 := KF.out 0
      have f1 := KF.out 1
      have f2 := KF.out 2
      go_wp2_with fail
      with_reducible refine (HQ.out _ HH.out).mono ?_
      rintro e w3 ⟨rfl, h3⟩
      have JR := hid (KR.out.below h3)
      have JF := hid (unfrozen_of h3 KR.out.1 KF.out)
      have hb3 := hb2.out.trans (h3.mono hb2.out.size)
      clear hz1 a0 a1 a2 f0 f1 f2 h3
      obtain ⟨hz1, a0, a1, a2⟩ := JR.out
      have f0 := JF.out 0
      have f1 := JF.out 1
      have f2 := JF.out 2
      go_wp2
      refine bodyPost_ret (v := numV false r.1 r.2.1 r.2.2) (by simp [results, Try.results22, go_sem, *]) rfl ⟨rfl, ?_⟩
      go_grown

set_option maxRecDepth 1000000 in
set_option maxHeartbeats 3200000 in
theorem refParse_xml_some (s : ByteArray) (w : World) (hs : s.size ≤ 60) (o : Nat) (hi : Lib.indexByte s.data.toList 46 = o) (ho : o < s.size) (r : Int × Int × Int) (hr : r = (if ((s.extract (o + 1) s.size) : ByteArray).size = 0 then (0, 0, 10) else readN (s.extract 0 o) (s.extract (o + 1) s.size))) :
    Calls Try.prog 22 #[.string s, .bool false] w fun e w' => e = .returned (numV false r.1 r.2.1 r.2.2) ∧ Below w.heap.size w w' := by
  have HC : Hid (∀ w' : World, Calls Try.prog 35 #[.string s, .int .u8 46] w' fun e w2 => e = .returned (.int .i64 (o : Nat)) ∧ w' = w2) := by
    intro w'
    have := refCut_any s 46 w' (by omega)
    rw [hi] at this
    exact this
  have hsz : ((s.extract 0 o) : ByteArray).size + ((s.extract (o + 1) s.size) : ByteArray).size ≤ 100 := by
    have := extract_size s 0 o; have := extract_size s (o + 1) s.size; omega
  have HR := hid (fun w' => refRead_any (cat (s.extract 0 o) (s.extract (o + 1) s.size)) w' (by rw [cat_size]; omega))
  have HZ := hid hr
  have HN := hid (res_new w)
  clear hi hr
  go_enter Try.func22, Try.ntmps22
  go_wp2_with fail
  with_reducible refine (HC.out _).mono ?_
  rintro e w1 ⟨rfl, rfl⟩
  go_wp2_with fail
  rw [cat_app]
  with_reducible refine (HR.out _).mono ?_
  rintro e w2 ⟨h2, ⟨hall, v, rfl, hown⟩ | ⟨hall, rfl⟩⟩
  all_goals
    have KR := hid (HN.out.1.below h2)
    have KF := hid (unfrozen_of h2 HN.out.1.1 HN.out.2)
    have hb2 := hid (((Below.refl _ w).alloc (Nat.le_refl _) (.cells #[.bool false, .int .i64 0, .int .i64 0] 23)).trans (h2.mono (by simp)))
    have HALL := hid hall
    clear hall h2
  rotate_left
  · have HE : Hid (r = (0, 0, 10)) := (by rw [HZ.out, readN_bad (.inl HALL.out)]; split <;> rfl)
    obtain ⟨hz1, a0, a1, a2⟩ := KR.out
    have f0 := KF.out 0
    have f1 := KF.out 1
    have f2 := KF.out 2
    have hbb := hb2.out
    go_wp2
    refine bodyPost_ret (v := numV false 0 0 10) (by simp [results, Try.results22, go_sem, *]) rfl ⟨by rw [HE.out], ?_⟩
    go_grown
  · by_cases hz : ((s.extract 0 o) : ByteArray).size = 0
    · have he := empty_of hz
      have HZ0 := hid hz
      clear hz
      have HE : Hid (r = (0, 0, 10)) := (by rw [HZ.out, readN_bad (.inr HZ0.out)]; split <;> rfl)
      obtain ⟨hz1, a0, a1, a2⟩ := KR.out
      have f0 := KF.out 0
      have f1 := KF.out 1
      have f2 := KF.out 2
      have hbb := hb2.out
      go_wp2
      refine bodyPost_ret (v := numV false 0 0 10) (by simp [results, Try.results22, go_sem, *]) rfl ⟨by rw [HE.out], ?_⟩
      go_grown
    · have he := nonempty_of hz
      have HZ0 := hid hz
      clear hz
      by_cases hy : ((s.extract (o + 1) s.size) : ByteArray).size = 0
      · have hye := empty_of hy
        have HY0 := hid hy
        clear hy
        have HE : Hid (r = (0, 0, 10)) := HZ.out.trans (if_pos HY0.out)
        obtain ⟨hz1, a0, a1, a2⟩ := KR.out
        have f0 := KF.out 0
        have f1 := KF.out 1
        have f2 := KF.out 2
        have hbb := hb2.out
        go_wp2
        refine bodyPost_ret (v := numV false 0 0 10) (by simp [results, Try.results22, go_sem, *]) rfl ⟨by rw [HE.out], ?_⟩
        go_grown
      · have hye := nonempty_of hy
        have HY0 := hid hy
        clear hy
        obtain ⟨g, cap, rfl, hh⟩ := holds_of (s := cat (s.extract 0 o) (s.extract (o + 1) s.size)) (by rw [cat_size]; have := HZ0.out; omega) hown
        have HH := hid hh
        have HBS : Hid ((s.extract (o + 1) s.size).size = s.size - (o + 1)) := by show _ = _; rw [ByteArray.size_extract]; omega
        skip
        have HE : Hid (r = numN (cat (s.extract 0 o) (s.extract (o + 1) s.size)) (s.size - (o + 1))) := HZ.out.trans ((if_neg HY0.out).trans ((readN_num HALL.out HZ0.out).trans (by rw [HBS.out])))
        have HQ : Hid (∀ w' : World, Holds w' g (cat (s.extract 0 o) (s.extract (o + 1) s.size)) → Calls Try.prog 37 #[.slice (some ⟨g, 0, none⟩) (cat (s.extract 0 o) (s.extract (o + 1) s.size)).size cap, .int .i64 ((s.size - (o + 1) : Nat) : Int)] w' fun e w2 => e = .returned (numV false r.1 r.2.1 r.2.2) ∧ Below w'.heap.size w' w2) := by
          intro w' hg
          have := refNumber_any (cat (s.extract 0 o) (s.extract (o + 1) s.size)) (s.size - (o + 1)) g cap w' (by rw [cat_size]; omega) (by rw [cat_size]; have := HZ0.out; omega) (by have := hsz; omega) HALL.out hg
          rw [← HE.out] at this
          exact this
        clear hh hown
        obtain ⟨hz1, a0, a1, a2⟩ := KR.out
        have f0 := KF.out 0
        have f1 := KF.out 1
        have f2 := KF.out 2
        go_wp2_with fail
        with_reducible refine (HQ.out _ HH.out).mono ?_
        rintro e w3 ⟨rfl, h3⟩
        have JR := hid (KR.out.below h3)
        have JF := hid (unfrozen_of h3 KR.out.1 KF.out)
        have hb3 := hb2.out.trans (h3.mono hb2.out.size)
        clear hz1 a0 a1 a2 f0 f1 f2 h3
        obtain ⟨hz1, a0, a1, a2⟩ := JR.out
        have f0 := JF.out 0
        have f1 := JF.out 1
        have f2 := JF.out 2
        go_wp2
        refine bodyPost_ret (v := numV false r.1 r.2.1 r.2.2) (by simp [results, Try.results22, go_sem, *]) rfl ⟨rfl, ?_⟩
        go_grown

theorem refParse_mt_any (s : ByteArray) (w : World) (hs : s.size ≤ 60) :
    Calls Try.prog 22 #[.string s, .bool true] w fun e w' => e = .returned (numV false (parseMTN s).1 (parseMTN s).2.1 (parseMTN s).2.2) ∧ Below w.heap.size w w' := by
  rcases partsAt_cases s 44 with ⟨hi, hp⟩ | ⟨o, hi, ho, hp⟩
  · exact refParse_mt_none s w hs hi _ (by rw [parseMTN, hp])
  · exact refParse_mt_some s w hs o hi ho _ (by rw [parseMTN, hp])
theorem refParse_xml_any (s : ByteArray) (w : World) (hs : s.size ≤ 60) :
    Calls Try.prog 22 #[.string s, .bool false] w fun e w' => e = .returned (numV false (parseXMLN s).1 (parseXMLN s).2.1 (parseXMLN s).2.2) ∧ Below w.heap.size w w' := by
  rcases partsAt_cases s 46 with ⟨hi, hp⟩ | ⟨o, hi, ho, hp⟩
  · exact refParse_xml_none s w hs hi _ (by rw [parseXMLN, hp])
  · exact refParse_xml_some s w hs o hi ho _ (by rw [parseXMLN, hp])
end Go.Proofs.Ytjpndajbkemnlaa
