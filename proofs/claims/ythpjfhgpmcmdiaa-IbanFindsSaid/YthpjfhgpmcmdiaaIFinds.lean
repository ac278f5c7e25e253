/-
  The walk of IbanFinds.
-/
import Derived.Test.YthpjfhgpmcmdiaaIMakes
namespace Go.Proofs.Ythpjfhgpmcmdiaa
open Go.RowKit

set_option maxHeartbeats 1000000 in
theorem ibFinds_long (co re : ByteArray) (a b : Nat) (w : World) (h1 : co.size ≤ 140737488351232) (h2 : re.size ≤ 140737488351232) (hl : 30 < co.size + re.size) :
    Calls Try.prog 5 #[.string co, .string re, .int .u8 a, .int .u8 b] w fun e w' => e = .returned (.bool true) ∧ Below w.heap.size w w' := by
  go_enter Try.func5, Try.ntmps5
  go_wp2_with (go_at_call 6; with_reducible refine (ibwakes_any _).mono ?_; rintro e w1 ⟨rfl, h1⟩)
  go_returns
  exact ⟨rfl, h1⟩

set_option maxHeartbeats 1000000 in
theorem ibFinds_bad (co re : ByteArray) (a b : Nat) (w : World) (hl : co.size + re.size ≤ 30) (hm : mayB co.data.toList re.data.toList = false) :
    Calls Try.prog 5 #[.string co, .string re, .int .u8 a, .int .u8 b] w fun e w' => e = .returned (.bool true) ∧ Below w.heap.size w w' := by
  have M1 := hid (fun w' => ibmake_bad co re w' (by omega) hm)
  clear hm
  go_enter Try.func5, Try.ntmps5
  go_wp2_with (first
    | (go_at_call 13; with_reducible refine (M1.out _).mono ?_; rintro e w1 ⟨rfl, h1⟩)
    | (go_at_call 6; with_reducible refine (ibwakes_any _).mono ?_; rintro e w2 ⟨rfl, h2⟩))
  go_returns
  exact ⟨rfl, h1.trans (h2.mono h1.size)⟩

/-- Block B holds the bytes l, and may be written. -/
def RowU (W : World) (B : Nat) (l : List UInt8) : Prop := ∀ j (h : j < l.length), W.cell? ⟨B, j, none⟩ = some (.int .u8 (l[j].toNat : Nat)) ∧ W.frozen? ⟨B, j, none⟩ = false
/-- A text's bytes, laid anew. -/
theorem RowU.new (w : World) (s : ByteArray) (cap : Nat) (t : TypeId) : RowU ((w.alloc (.cells (bytesRow s cap) t ((bytesRow s cap).size, (bytesRow s cap).size + 1))).drew) w.heap.size s.data.toList := by
  intro j h
  have hj : j < s.data.size := by simpa using h
  refine ⟨?_, ?_⟩
  · show (w.alloc (.cells (bytesRow s cap) t ((bytesRow s cap).size, (bytesRow s cap).size + 1))).cell? ⟨w.heap.size, j, none⟩ = _
    rw [World.cell?_alloc_mark, bytesRow_at s cap j hj]
    simp
  · show (w.alloc (.cells (bytesRow s cap) t ((bytesRow s cap).size, (bytesRow s cap).size + 1))).frozen? ⟨w.heap.size, j, none⟩ = false
    rw [World.frozen?_alloc_mark, Bool.and_eq_false_iff]
    left
    have : s.data.size ≤ (bytesRow s cap).size := by simp [bytesRow]
    simp; omega
theorem RowU.below {W W' : World} {B : Nat} {l : List UInt8} (h : RowU W B l) (hb : Below W.heap.size W W') (hB : B < W.heap.size) : RowU W' B l := fun j hj =>
  ⟨(hb.cell (p := ⟨B, j, none⟩) hB).trans (h j hj).1, (hb.frozen (p := ⟨B, j, none⟩) hB).trans (h j hj).2⟩
theorem RowU.set {W : World} {B : Nat} {l : List UInt8} (h : RowU W B l) (i : Nat) (hi : i < l.length) (v : UInt8) : RowU (W.setCell ⟨B, i, none⟩ (.int .u8 (v.toNat : Nat))) B (l.set i v) := by
  intro j hj
  have hj' : j < l.length := by simpa using hj
  refine ⟨?_, by rw [World.frozen?_setCell]; exact (h j hj').2⟩
  by_cases e : i = j
  · subst e
    rw [World.cell?_setCell_same' _ _ _ (by rw [(h i hi).1]; rfl)]
    simp
  · rw [World.cell?_setCell_other _ _ _ _ (fun h => e (by cases h; rfl)), (h j hj').1]
    simp [e]
/-- The text of such a row. -/
theorem RowU.text {W : World} {B n cap : Nat} {l : List UInt8} (h : RowU W B l) (hn : l.length = n) :
    (convert 31 9 (.slice (some ⟨B, 0, none⟩) n cap)).run Try.prog W = .ok (.string ⟨l.toArray⟩) W := by
  subst hn
  exact run_convert_bytes_back W 31 9 5 ⟨B, 0, none⟩ cap l Try.underlying31 Try.underlying5 Try.underlying9 (fun j hj => by
    rw [Addr.add_lit]
    simp only [Nat.zero_add]
    exact (h j hj).1)

/-- Another one of its kind. -/
theorem other_dg {c : UInt8} (h : ibDg c = true) (b : Nat) : ∃ v : UInt8, ibDg v = true ∧ v ≠ c ∧ (v.toNat : Int) = 48 + ((c.toNat : Int) - 48 + 1 + (b : Int) % 9) % 10 := by
  simp only [ibDg, Bool.and_eq_true, decide_eq_true_eq] at h
  refine ⟨UInt8.ofNat (48 + (c.toNat - 48 + 1 + b % 9) % 10), ?_, ?_, ?_⟩
  all_goals have e : (UInt8.ofNat (48 + (c.toNat - 48 + 1 + b % 9) % 10)).toNat = 48 + (c.toNat - 48 + 1 + b % 9) % 10 := by simp only [UInt8.toNat_ofNat']; omega
  · simp only [ibDg, Bool.and_eq_true, decide_eq_true_eq, e]; omega
  · intro hh; rw [hh] at e; omega
  · rw [e]; omega
theorem other_lt {c : UInt8} (h : ibLt c = true) (b : Nat) : ∃ v : UInt8, ibLt v = true ∧ v ≠ c ∧ (v.toNat : Int) = 65 + ((c.toNat : Int) - 65 + 1 + (b : Int) % 25) % 26 := by
  simp only [ibLt, Bool.and_eq_true, decide_eq_true_eq] at h
  refine ⟨UInt8.ofNat (65 + (c.toNat - 65 + 1 + b % 25) % 26), ?_, ?_, ?_⟩
  all_goals have e : (UInt8.ofNat (65 + (c.toNat - 65 + 1 + b % 25) % 26)).toNat = 65 + (c.toNat - 65 + 1 + b % 25) % 26 := by simp only [UInt8.toNat_ofNat']; omega
  · simp only [ibLt, Bool.and_eq_true, decide_eq_true_eq, e]; omega
  · intro hh; rw [hh] at e; omega
  · rw [e]; omega

theorem kind_is_dg {c : UInt8} (h : ibDg c = true) (w : World) :
    Calls Try.prog 14 #[.int .u8 c.toNat] w fun e w' => e = .returned (.int .i64 1) ∧ w' = w := by
  simp only [ibDg, Bool.and_eq_true, decide_eq_true_eq] at h
  exact kind_dg _ h.1 h.2 w
theorem kind_is_lt {c : UInt8} (h : ibLt c = true) (w : World) :
    Calls Try.prog 14 #[.int .u8 c.toNat] w fun e w' => e = .returned (.int .i64 2) ∧ w' = w := by
  simp only [ibLt, Bool.and_eq_true, decide_eq_true_eq] at h
  exact kind_lt _ h.1 h.2 w
theorem dg_or_lt {l : List UInt8} (h : l.all ibOk = true) (i : Nat) (hi : i < l.length) : ibDg l[i] = true ∨ ibLt l[i] = true := by
  rw [List.all_eq_true] at h
  have := h l[i] (List.getElem_mem hi)
  rw [ibOk, Bool.or_eq_true] at this
  exact this

set_option maxRecDepth 100000 in
set_option maxHeartbeats 4000000 in
theorem ibFinds_good (co re : ByteArray) (a b : Nat) (ha : a ≤ 255) (hb : b ≤ 255) (w : World) (S : ByteArray) (hl : co.size + re.size ≤ 30) (h6 : 6 ≤ S.size) (hz : S.size ≤ 100)
    (hM : ∀ w', Calls Try.prog 13 #[.string co, .string re] w' fun e w'' => e = .returned (.tuple #[.string S, .int .i64 0]) ∧ Below w'.heap.size w' w'') (hc : checkV S.data.toList = 0) :
    Calls Try.prog 5 #[.string co, .string re, .int .u8 a, .int .u8 b] w fun e w' => e = .returned (.bool true) ∧ Below w.heap.size w w' := by
  have M1 := hid hM
  have C0 := hid (fun w' => ibcheck_any S w' (by omega))
  have hlen : S.data.toList.length = S.size := by simp
  rw [hc] at C0
  have hr := check_rest hc
  have HK := hid (dg_or_lt (rest_horn hr).2.2)
  have HR := hid hr
  have KV := hid (fun (j : Nat) (hj : j < S.data.toList.length) w' => kind_any (S.data.toList[j]) (by have h := (rest_horn hr).2.2; rw [List.all_eq_true] at h; exact h _ (List.getElem_mem hj)) w')
  have CB := hid (fun (l : List UInt8) (x : Int) (h : checkV l = x) (hl : l.length ≤ 1000) w' => check_lit l x h hl w')
  obtain ⟨i, hi⟩ : ∃ i : Nat, 2 + (a : Int) % ((S.size : Int) - 2) = (i : Int) := ⟨(2 + (a : Int) % ((S.size : Int) - 2)).toNat, by have := Int.emod_nonneg (a : Int) (show (S.size : Int) - 2 ≠ 0 by omega); omega⟩
  obtain ⟨k, hk⟩ : ∃ k : Nat, 4 + (a : Int) % ((S.size : Int) - 5) = (k : Int) := ⟨(4 + (a : Int) % ((S.size : Int) - 5)).toNat, by have := Int.emod_nonneg (a : Int) (show (S.size : Int) - 5 ≠ 0 by omega); omega⟩
  have hil : i < S.size := by have := Int.emod_lt_of_pos (a : Int) (show 0 < (S.size : Int) - 2 by omega); omega
  have hkl : k + 1 < S.size := by have := Int.emod_lt_of_pos (a : Int) (show 0 < (S.size : Int) - 5 by omega); omega
  have hk4 : 4 ≤ k := by have := Int.emod_nonneg (a : Int) (show (S.size : Int) - 5 ≠ 0 by omega); omega
  generalize hL : S.data.toList = l at *
  clear hM hc hr
  have hcv2 := fun w s => run_bytes_of_string (P := Try.prog) w 9 31 5 s Try.underlying9 Try.underlying31 Try.underlying5
  go_enter Try.func5, Try.ntmps5
  go_wp2_with fail
  refine (M1.out _).mono ?_
  rintro e w1 ⟨rfl, h1⟩
  go_wp2_with fail
  refine (C0.out _).mono ?_
  rintro e w2 ⟨rfl, h2⟩
  have b2 := h1.trans (h2.mono h1.size)
  clear h1 h2
  go_upto_region 10 with fail
  have R3 := hid (RowU.new w2 S (grownCap w2 S.size 0 5) 5)
  have b3 : Below w.heap.size w ((w2.alloc (.cells (bytesRow S (grownCap w2 S.size 0 5)) 5 ((bytesRow S (grownCap w2 S.size 0 5)).size, (bytesRow S (grownCap w2 S.size 0 5)).size + 1))).drew) := (b2.alloc b2.size _).drew
  have hB := b2.size
  have hz3 : w2.heap.size < ((w2.alloc (.cells (bytesRow S (grownCap w2 S.size 0 5)) 5 ((bytesRow S (grownCap w2 S.size 0 5)).size, (bytesRow S (grownCap w2 S.size 0 5)).size + 1))).drew).heap.size := by simp [go_sem]
  rw [hL] at R3
  generalize ((w2.alloc (.cells (bytesRow S (grownCap w2 S.size 0 5)) 5 ((bytesRow S (grownCap w2 S.size 0 5)).size, (bytesRow S (grownCap w2 S.size 0 5)).size + 1))).drew) = w3 at *
  generalize grownCap w2 S.size 0 5 = cap at *
  generalize w2.heap.size = B at *
  clear b2
  have hli : i < l.length := by omega
  obtain ⟨c3, f3⟩ := R3.out i hli
  go_upto_if 57 with (go_at_call 14; refine (KV.out i hli _).mono ?_; rintro e w' ⟨rfl, hw'⟩; obtain rfl := hw'.symm)
  go_cut [] from 56 to 85 (fun wx => ∃ v : UInt8, (ibDg l[i] = true ∧ ibDg v = true ∨ ibLt l[i] = true ∧ ibLt v = true) ∧ v ≠ l[i] ∧ RowU wx B (l.set i v) ∧ Below w.heap.size w wx ∧ B < wx.heap.size)
  case first =>
    rcases HK.out i hli with hd | hd
    · obtain ⟨v, v1, v2, v3⟩ := other_dg hd b
      have hk1 : kindV l[i] = 1 := by rw [kindV, if_pos hd]
      have hd' := hd
      simp only [ibDg, Bool.and_eq_true, decide_eq_true_eq] at hd'
      have HD := hid hd
      have V1 := hid v1
      have V2 := hid v2
      clear v1 v2 hd
      rw [hk1]
      go_wp2
      rw [← v3]
      go_meet
      exact ⟨v, .inl ⟨HD.out, V1.out⟩, V2.out, R3.out.set i hli v, b3.setCell (p := ⟨B, i, none⟩) hB _, by simpa [go_sem] using hz3⟩
    · obtain ⟨v, v1, v2, v3⟩ := other_lt hd b
      have hd' := hd
      simp only [ibLt, Bool.and_eq_true, decide_eq_true_eq] at hd'
      have hdn : ¬ ibDg l[i] = true := by simp only [ibDg, Bool.and_eq_true, decide_eq_true_eq]; omega
      have hk1 : kindV l[i] = 2 := by rw [kindV, if_neg hdn, if_pos hd]
      have HD := hid hd
      have V1 := hid v1
      have V2 := hid v2
      clear v1 v2 hd hdn
      rw [hk1]
      go_wp2
      rw [← v3]
      go_meet
      exact ⟨v, .inr ⟨HD.out, V1.out⟩, V2.out, R3.out.set i hli v, b3.setCell (p := ⟨B, i, none⟩) hB _, by simpa [go_sem] using hz3⟩
  case rest =>
    obtain ⟨v, v1, v2, R4, b4, hz4⟩ := hcut
    have hfind := hid (find_one hli HR.out v1 v2)
    have hcv4 := R4.text (cap := cap) (n := S.size) (by simpa using hlen)
    have hl4 : (l.set i v).length ≤ 1000 := by simp; omega
    clear R3 R4 c3 f3 hz3 b3 v1 v2
    generalize l.set i v = l4 at *
    go_wp2_with fail
    refine (CB.out _ 13 hfind.out hl4 _).mono ?_
    rintro e w5 ⟨rfl, h5⟩
    have b5 := b4.trans (h5.mono b4.size)
    clear h5 b4 hcv4 hz4 hfind hl4
    go_upto_region 17 with fail
    have R6 := hid (RowU.new w5 S (grownCap w5 S.size 0 5) 5)
    have b6 : Below w.heap.size w ((w5.alloc (.cells (bytesRow S (grownCap w5 S.size 0 5)) 5 ((bytesRow S (grownCap w5 S.size 0 5)).size, (bytesRow S (grownCap w5 S.size 0 5)).size + 1))).drew) := (b5.alloc b5.size _).drew
    have hC := b5.size
    rw [hL] at R6
    generalize ((w5.alloc (.cells (bytesRow S (grownCap w5 S.size 0 5)) 5 ((bytesRow S (grownCap w5 S.size 0 5)).size, (bytesRow S (grownCap w5 S.size 0 5)).size + 1))).drew) = w6 at *
    generalize grownCap w5 S.size 0 5 = cap5 at *
    generalize w5.heap.size = C at *
    clear b5
    have hk0 : k < l.length := by omega
    have hk1 : k + 1 < l.length := by omega
    obtain ⟨c0, f0⟩ := R6.out k hk0
    obtain ⟨c1, f1⟩ := R6.out (k + 1) hk1
    rcases HK.out k hk0 with hd | hd
    · have K1 := hid (fun w' => kind_is_dg hd w')
      rcases HK.out (k + 1) hk1 with he | he
      · have K2 := hid (fun w' => kind_is_dg he w')
        by_cases hne : l[k] = l[k + 1]
        · rw [← hne] at c1
          clear hne hd he K2
          generalize l[k].toNat = p at c0 c1 K1
          go_quiet (first | (go_at_call 14; with_reducible exact Calls.quiet_of_same (K1.out _)))
          go_wp2_with fail
          refine (ibwakes_any _).mono ?_
          rintro e w7 ⟨rfl, h7⟩
          go_wp2
          go_returns
          have b7 := ib_below_drewN b6 nq
          exact ⟨rfl, b7.trans (h7.mono b7.size)⟩
        · have hfind2 := hid (find_two hk4 hk1 HR.out hd he hne)
          have hlen2 : ((l.set k l[k + 1]).set (k + 1) l[k]).length = S.size := by simpa using hlen
          have HS : Hid (∀ W, RowU W C l → RowU ((W.setCell ⟨C, k, none⟩ (.int .u8 (l[k + 1].toNat : Nat))).setCell ⟨C, k + 1, none⟩ (.int .u8 (l[k].toNat : Nat))) C ((l.set k l[k + 1]).set (k + 1) l[k])) :=
            fun W h => (h.set k hk0 l[k + 1]).set (k + 1) (by simpa using hk1) l[k]
          have hpq : ((l[k].toNat : Int) != (l[k + 1].toNat : Int)) = true := by
            rw [bne_iff_ne]
            exact fun e => hne (UInt8.toNat_inj.1 (by omega))
          clear hne hd he
          generalize (l.set k l[k + 1]).set (k + 1) l[k] = l2 at hfind2 HS hlen2
          generalize l[k].toNat = p at c0 K1 HS hpq
          generalize l[k + 1].toNat = q at c1 K2 HS hpq
          go_quiet (first | (go_at_call 14; first | with_reducible exact Calls.quiet_of_same (K1.out _) | with_reducible exact Calls.quiet_of_same (K2.out _)))
          have b7 := ib_below_drewN b6 nq
          have R7 : Hid (RowU (w6.drewN nq) C l) := R6.out
          replace c0 : (w6.drewN nq).cell? ⟨C, k, none⟩ = _ := c0
          replace c1 : (w6.drewN nq).cell? ⟨C, k + 1, none⟩ = _ := c1
          replace f0 : (w6.drewN nq).frozen? ⟨C, k, none⟩ = _ := f0
          replace f1 : (w6.drewN nq).frozen? ⟨C, k + 1, none⟩ = _ := f1
          generalize w6.drewN nq = w7 at *
          clear R6 b6
          go_wp2_with fail
          go_region
          have R8 : Hid (RowU (((w7.setCell ⟨C, k, none⟩ (.int .u8 q)).setCell ⟨C, k + 1, none⟩ (.int .u8 p)).drew) C l2) := HS.out w7 R7.out
          have b8 : Below w.heap.size w (((w7.setCell ⟨C, k, none⟩ (.int .u8 q)).setCell ⟨C, k + 1, none⟩ (.int .u8 p)).drew) := ((b7.setCell (p := ⟨C, k, none⟩) hC _).setCell (p := ⟨C, k + 1, none⟩) hC _).drew
          have hcv8 := R8.out.text (cap := cap5) (n := S.size) hlen2
          generalize ((w7.setCell ⟨C, k, none⟩ (.int .u8 q)).setCell ⟨C, k + 1, none⟩ (.int .u8 p)).drew = w8 at *
          clear R7 R8 b7 c0 c1 f0 f1 HS
          go_wp2_with fail
          refine (CB.out _ 13 hfind2.out (by omega) _).mono ?_
          rintro e w9 ⟨rfl, h9⟩
          have b9 := b8.trans (h9.mono b8.size)
          clear hcv8 h9 b8
          go_wp2_with fail
          refine (ibwakes_any _).mono ?_
          rintro e w10 ⟨rfl, h10⟩
          go_wp2
          go_returns
          exact ⟨rfl, b9.trans (h10.mono b9.size)⟩
      · have K2 := hid (fun w' => kind_is_lt he w')
        clear hd he
        generalize l[k].toNat = p at c0 K1
        generalize l[k + 1].toNat = q at c1 K2
        go_quiet (first | (go_at_call 14; first | with_reducible exact Calls.quiet_of_same (K1.out _) | with_reducible exact Calls.quiet_of_same (K2.out _)))
        go_wp2_with fail
        refine (ibwakes_any _).mono ?_
        rintro e w7 ⟨rfl, h7⟩
        go_wp2
        go_returns
        have b7 := ib_below_drewN b6 nq
        exact ⟨rfl, b7.trans (h7.mono b7.size)⟩
    · have K1 := hid (fun w' => kind_is_lt hd w')
      clear hd c1
      generalize l[k].toNat = p at c0 K1
      go_quiet (first | (go_at_call 14; with_reducible exact Calls.quiet_of_same (K1.out _)))
      go_wp2_with fail
      refine (ibwakes_any _).mono ?_
      rintro e w7 ⟨rfl, h7⟩
      go_wp2
      go_returns
      have b7 := ib_below_drewN b6 nq
      exact ⟨rfl, b7.trans (h7.mono b7.size)⟩

theorem made_may {co re : ByteArray} (hm : mayB co.data.toList re.data.toList = true) (hl : co.size + re.size ≤ 30) :
    ∃ S : ByteArray, 6 ≤ S.size ∧ S.size ≤ 100 ∧ checkV S.data.toList = 0 ∧
      ∀ w', Calls Try.prog 13 #[.string co, .string re] w' fun e w'' => e = .returned (.tuple #[.string S, .int .i64 0]) ∧ Below w'.heap.size w' w'' := by
  obtain ⟨x, hx⟩ : ∃ x : UInt8, x.toNat = 48 + (98 - uncN co.data.toList re.data.toList) / 10 := ⟨UInt8.ofNat (48 + (98 - uncN co.data.toList re.data.toList) / 10), by simp; omega⟩
  obtain ⟨y, hy⟩ : ∃ y : UInt8, y.toNat = 48 + (98 - uncN co.data.toList re.data.toList) % 10 := ⟨UInt8.ofNat (48 + (98 - uncN co.data.toList re.data.toList) % 10), by simp; omega⟩
  obtain ⟨n, -, hz, -, hc, -, -, hn2⟩ := may_parts hm
  have hco : co.size = 2 := by simpa using hc
  have hre : re.size + 4 = n := by simpa using hz
  have z3 : (⟨#[x, y]⟩ : ByteArray).size = 2 := rfl
  have z5 : (co ++ ⟨#[x, y]⟩ ++ re : ByteArray).size = co.size + 2 + re.size := by simp [ByteArray.size_append, z3]
  have hS : (co ++ ⟨#[x, y]⟩ ++ re).data.toList = co.data.toList ++ ([x, y] ++ re.data.toList) := by simp
  exact ⟨co ++ ⟨#[x, y]⟩ ++ re, by omega, by omega, by rw [hS]; exact made_check hm hx hy, fun w' => ibmake_good co re w' (by omega) hm x y hx hy⟩

theorem ibFinds_any (co : ByteArray) (h1 : co.size ≤ 140737488351232) (re : ByteArray) (h2 : re.size ≤ 140737488351232) (t : Int) (ht : (Lit.int .u8 t).wf = true) (u : Int) (hu : (Lit.int .u8 u).wf = true) (w : World) :
    Calls Try.prog 5 #[.string co, .string re, .int .u8 t, .int .u8 u] w fun e w' => e = .returned (.bool true) ∧ Below w.heap.size w w' := by
  have hb : ∀ x : Int, (Lit.int .u8 x).wf = true → 0 ≤ x ∧ x ≤ 255 := fun x h => by
    have e1 : IntKind.u8.min = 0 := by decide
    have e2 : IntKind.u8.max = 255 := by decide
    rw [Lit.wf, e1, e2, Bool.and_eq_true, decide_eq_true_eq, decide_eq_true_eq] at h
    exact h
  have ht2 := hb t ht
  have hu2 := hb u hu
  obtain ⟨a, rfl⟩ : ∃ a : Nat, t = (a : Int) := ⟨t.toNat, by omega⟩
  obtain ⟨b, rfl⟩ : ∃ b : Nat, u = (b : Int) := ⟨u.toNat, by omega⟩
  by_cases h : co.size + re.size ≤ 30
  · by_cases hm : mayB co.data.toList re.data.toList = true
    · obtain ⟨S, h6, hz, hc, hM⟩ := made_may hm h
      exact ibFinds_good co re a b (by omega) (by omega) w S h h6 hz hM hc
    · exact ibFinds_bad co re a b w h (by simpa using hm)
  · exact ibFinds_long co re a b w h1 h2 (by omega)
end Go.Proofs.Ythpjfhgpmcmdiaa
