/-
  The document's own answers for account numbers: Rest.
-/
import Derived.Test.YthpjfhgpmcmdiaaIbL
import Derived.OwnWalk
import Derived.RangeFuncBox
namespace Go.Proofs.Ythpjfhgpmcmdiaa
open Go.RowKit

theorem ib_info : (Try.prog.info? 3).map (fun i => (i.zero, i.size, i.bytes)) = some (some (.int .i64 0), 1, 8) := by kernel_rfl
/-- Digits as values. -/
def ibVals (ds : List Nat) : List Value := ds.map fun d => Value.int .i64 (d : Nat)
theorem ibVals_append (a b : List Nat) : ibVals (a ++ b) = ibVals a ++ ibVals b := by simp [ibVals]
theorem ibVals_len (a : List Nat) : (ibVals a).length = a.length := by simp [ibVals]

set_option maxHeartbeats 1000000 in
theorem refRest_short (s : ByteArray) (w : World) (hs : s.size < 4) :
    Calls Try.prog 8 #[.string s] w fun e w' => e = .returned (.tuple #[.int .i64 0, .bool false]) ∧ Below w.heap.size w w' := by
  go_enter Try.func8, Try.ntmps8
  go_wp2
  go_returns
  exact ⟨rfl, Below.refl _ _⟩

theorem rot_all (l : List UInt8) (p : UInt8 → Bool) : (rot l).all p = l.all p := by
  rw [rot, List.all_append, Bool.and_comm, ← List.all_append, List.take_append_drop]
theorem rot_len (l : List UInt8) : (rot l).length = l.length := by
  simp [rot]; omega
theorem take_snoc (T : ByteArray) (k : Nat) (h : k < T.size) : T.data.toList.take (k + 1) = T.data.toList.take k ++ [T[k]] := by
  have h' : k < T.data.toList.length := by simpa using h
  rw [List.take_succ_eq_append_getElem h']
  rfl
theorem take_all (T : ByteArray) : T.data.toList.take T.size = T.data.toList := List.take_of_length_le (by simp)
theorem ok_dg {c : UInt8} (h1 : 48 ≤ c.toNat) (h2 : c.toNat ≤ 57) : ibOk c = true ∧ ibVal c = [c.toNat - 48] := by
  simp [ibOk, ibVal, ibDg, h1, h2]
theorem ok_lt {c : UInt8} (h1 : 65 ≤ c.toNat) (h2 : c.toNat ≤ 90) : ibOk c = true ∧ ibVal c = [(c.toNat - 55) / 10, (c.toNat - 55) % 10] := by
  have : ¬ c.toNat ≤ 57 := by omega
  simp [ibOk, ibVal, ibDg, ibLt, h1, h2, this]
theorem ok_bad {c : UInt8} (h : c.toNat < 48 ∨ 57 < c.toNat ∧ c.toNat < 65 ∨ 90 < c.toNat) : ibOk c = false := by
  simp only [ibOk, ibDg, ibLt, Bool.or_eq_false_iff, Bool.and_eq_false_iff, decide_eq_false_iff_not]
  omega
theorem all_bad {T : ByteArray} {k : Nat} (h : k < T.size) (hb : ibOk T[k] = false) : T.data.toList.all ibOk = false := by
  rw [List.all_eq_false]
  exact ⟨T[k], by rw [ByteArray.getElem_eq_getElem_data]; exact Array.mem_toList_iff.2 (Array.getElem_mem _), by simp [hb]⟩

theorem digsOf_le (l : List UInt8) : ∀ d ∈ digsOf l, d ≤ 255 := by
  intro d hd
  obtain ⟨c, _, hc⟩ := List.mem_flatMap.1 hd
  have := c.toNat_lt
  unfold ibVal at hc
  split at hc
  · simp at hc; omega
  · simp at hc; omega
theorem digsOf_ge (l : List UInt8) : l.length ≤ (digsOf l).length := by
  induction l with
  | nil => exact Nat.zero_le _
  | cons c l ih =>
    have : digsOf (c :: l) = ibVal c ++ digsOf l := by simp [digsOf]
    rw [this, List.length_append, List.length_cons]
    have : 1 ≤ (ibVal c).length := by unfold ibVal; split <;> simp
    omega
theorem horn_take (ds : List Nat) (k : Nat) (h : k < ds.length) : horn (ds.take (k + 1)) = (10 * horn (ds.take k) + ds[k]) % 97 := by
  rw [List.take_succ_eq_append_getElem h, horn_snoc]

set_option maxRecDepth 100000 in
set_option maxHeartbeats 8000000 in
theorem refRest_long (s : ByteArray) (w : World) (hs : 4 ≤ s.size) (hs2 : s.size ≤ 1000) :
    Calls Try.prog 8 #[.string s] w fun e w' => e = .returned (.tuple #[.int .i64 ((restV s.data.toList).1 : Nat), .bool (restV s.data.toList).2]) ∧ Below w.heap.size w w' := by
  obtain ⟨i0, hi, hz0, hz1, hz2⟩ := info_parts ib_info
  have z1 : (4 : Int) ≤ (s.size : Int) := by omega
  have hT : (s.extract 4 s.size ++ s.extract 0 4).data.toList = rot s.data.toList := by
    rw [ByteArray.data_append, Array.toList_append, ByteArray.data_extract, ByteArray.data_extract, Array.toList_extract, Array.toList_extract, List.extract_eq_take_drop, List.extract_eq_take_drop, rot,
      List.take_of_length_le (by simp), List.drop_zero]
  have hTs : (s.extract 4 s.size ++ s.extract 0 4).size = s.size := by
    have := congrArg List.length hT
    rw [rot_len] at this
    simpa using this
  have hR : ∀ b, s.data.toList.all ibOk = b → restV s.data.toList = if b then (horn (digsOf (rot s.data.toList)), true) else (0, false) := by
    intro b hb
    have h4 : 4 ≤ s.data.toList.length := by simpa using hs
    cases b
    · rw [restV, if_neg (by simp [hb])]; rfl
    · rw [restV, if_pos ⟨h4, hb⟩]; rfl
  have hA : (s.extract 4 s.size ++ s.extract 0 4).data.toList.all ibOk = s.data.toList.all ibOk := by rw [hT, rot_all]
  rw [← hA, ← hT] at hR
  generalize restV s.data.toList = v at hR ⊢
  have HR := hid hR
  clear hR hA hT
  go_enter Try.func8, Try.ntmps8
  go_wp2
  go_quiet (fail)
  generalize s.extract 4 s.size ++ s.extract 0 4 = T at hTs HR ⊢
  have b0 := ib_below_drewN (Below.refl w.heap.size w) nq
  generalize w.drewN nq = w0 at b0 ⊢
  go_wp2
  go_loopw [5, 6] (fun v i wr => ∃ k : Nat, k ≤ T.size ∧ i = .int .i64 k ∧ wr.ownsRow w.heap.size 3 1 v (digsOf (T.data.toList.take k)).length (ibVals (digsOf (T.data.toList.take k))) ∧ (T.data.toList.take k).all ibOk = true ∧ Below w.heap.size w wr) (fun _ i _ => T.size - (intOf i).toNat)
  case atStart => exact ⟨0, Nat.zero_le _, rfl, World.ownsRow_nil _ _ _ _, rfl, b0⟩
  case round =>
    obtain ⟨k, hk, rfl, hown, hall, hb⟩ := hrel
    have HA := hid hall
    clear hall
    by_cases hlt : k < T.size
    · have HS := hid (take_snoc T k hlt)
      have hdl := digsOf_len (T.data.toList.take k)
      have hdl2 : (T.data.toList.take k).length ≤ k := by simp; omega
      by_cases hd : 48 ≤ T[k].toNat ∧ T[k].toNat ≤ 57
      · obtain ⟨hd1, hd2⟩ := hd
        have HO := hid (ok_dg hd1 hd2)
        go_wp2_with (at_builtin; refine wpList_append_own _ rfl _ _ 37 rfl w.heap.size 3 i0 (.int .i64 0) 1 8 Try.underlying37 hi hz0 hz1 hz2 rfl (by decide) _ _ _ rfl (hown.alloc _) ⟨wr.heap.size, 0, none⟩ 1 1 [.int .i64 ((T[k].toNat - 48 : Nat) : Int)] rfl rfl ?c1 ?c2 ?c3 ?c4 ?c5 ?_)
        case c1 =>
          intro j u hj
          match j, hj with
          | 0, hj => simp at hj; subst hj; simp [Addr.add]; omega
        case c2 => intro u hu; simp at hu; subst hu; rfl
        case c3 => unfold maxLen; omega
        case c4 => omega
        case c5 => have := hb.size; simp; omega
        intro v' w1 hown' hgrow _
        have hb' : Below w.heap.size w w1 := (hb.alloc hb.size _).grown hgrow (by have := hb.size; simp; omega) (fun j hj => (hown.lt j hj).1)
        clear hgrow hown hb
        have HO' := hid hown'
        clear hown'
        go_wp2
        go_roundw
        case rel =>
          refine ⟨k + 1, by omega, by go_num, ?_, ?_, hb'⟩
          · rw [HS.out, digsOf_snoc, HO.out.2, List.length_append, ibVals_append]
            exact HO'.out
          · rw [HS.out, List.all_append, HA.out]
            simp [HO.out.1]
        case measure => simp [intOf]; omega
      · by_cases hl : 65 ≤ T[k].toNat ∧ T[k].toNat ≤ 90
        · obtain ⟨hd1, hd2⟩ := hl
          have hd3 : 57 < T[k].toNat := by omega
          have hd4 : 48 ≤ T[k].toNat := by omega
          have HO := hid (ok_lt hd1 hd2)
          clear hd
          go_wp2_with (at_builtin; refine wpList_append_own _ rfl _ _ 37 rfl w.heap.size 3 i0 (.int .i64 0) 1 8 Try.underlying37 hi hz0 hz1 hz2 rfl (by decide) _ _ _ rfl (hown.alloc _) ⟨wr.heap.size, 0, none⟩ 2 2 [.int .i64 (((T[k].toNat - 55) / 10 : Nat) : Int), .int .i64 (((T[k].toNat - 55) % 10 : Nat) : Int)] rfl rfl ?c1 ?c2 ?c3 ?c4 ?c5 ?_)
          case c1 =>
            intro j u hj
            match j, hj with
            | 0, hj => simp at hj; subst hj; simp [Addr.add]; omega
            | 1, hj => simp at hj; subst hj; simp [Addr.add]; omega
          case c2 => intro u hu; simp at hu; rcases hu with rfl | rfl <;> rfl
          case c3 => unfold maxLen; omega
          case c4 => omega
          case c5 => have := hb.size; simp; omega
          intro v' w1 hown' hgrow _
          have hb' : Below w.heap.size w w1 := (hb.alloc hb.size _).grown hgrow (by have := hb.size; simp; omega) (fun j hj => (hown.lt j hj).1)
          clear hgrow hown hb
          have HO' := hid hown'
          clear hown'
          go_wp2
          go_roundw
          case rel =>
            refine ⟨k + 1, by omega, by go_num, ?_, ?_, hb'⟩
            · rw [HS.out, digsOf_snoc, HO.out.2, List.length_append, ibVals_append]
              exact HO'.out
            · rw [HS.out, List.all_append, HA.out]
              simp [HO.out.1]
          case measure => simp [intOf]; omega
        · by_cases h1 : T[k].toNat < 48
          · clear hl
            have hbad := hid (all_bad hlt (ok_bad (.inl h1)))
            clear hd
            go_wp2
            go_returns
            rw [HR.out _ hbad.out]
            exact ⟨rfl, hb⟩
          · by_cases h2 : 90 < T[k].toNat
            · have h3 : 57 < T[k].toNat := by omega
              have h4 : 48 ≤ T[k].toNat := by omega
              have h5 : 65 ≤ T[k].toNat := by omega
              clear hl h1
              have hbad := hid (all_bad hlt (ok_bad (.inr (.inr h2))))
              clear hd
              go_wp2
              go_returns
              rw [HR.out _ hbad.out]
              exact ⟨rfl, hb⟩
            · have h3 : 57 < T[k].toNat := by omega
              have h4 : 48 ≤ T[k].toNat := by omega
              have h5 : T[k].toNat < 65 := by omega
              clear hl h1 h2
              have hbad := hid (all_bad hlt (ok_bad (.inr (.inl ⟨h3, h5⟩))))
              clear hd
              go_wp2
              go_returns
              rw [HR.out _ hbad.out]
              exact ⟨rfl, hb⟩
    · obtain rfl : k = T.size := by omega
      have hok := HA.out
      rw [take_all] at hok hown
      have HV := hid (HR.out _ hok)
      have hD := digsOf_le T.data.toList
      have hge := digsOf_ge T.data.toList
      have hle := digsOf_len T.data.toList
      have hTl : T.data.toList.length = T.size := by simp
      rw [if_pos rfl] at HV
      generalize digsOf T.data.toList = ds at hown HV hD hge hle
      obtain ⟨m, hm⟩ : ∃ m, ds.length = m + 1 := ⟨ds.length - 1, by omega⟩
      rw [hm] at hown
      obtain ⟨g, cap, rfl⟩ := ownsRow_succ hown
      have HC : Hid (∀ j (h : j < ds.length), wr.cell? ⟨g, j, none⟩ = some (.int .i64 ((ds[j] : Nat) : Int))) := fun j h => by
        rw [World.ownsRow.cellAt hown j (by omega), ibVals, List.getElem?_map, List.getElem?_eq_getElem h]
        rfl
      have HD := hid hD
      clear hown hD hok HR HA
      go_wp2
      go_loop [8, 9] (fun n i => ∃ k : Nat, k ≤ ds.length ∧ i = .int .i64 k ∧ n = .int .i64 ((horn (ds.take k) : Nat) : Int)) (fun _ i => ds.length - (intOf i).toNat)
      case atStart => exact ⟨0, Nat.zero_le _, rfl, rfl⟩
      case round =>
        obtain ⟨k, hk, rfl, rfl⟩ := hrel
        have hh := horn_lt (ds.take k)
        by_cases hlt : k < ds.length
        · have hc := HC.out k hlt
          have hd := HD.out ds[k] (List.getElem_mem hlt)
          have HH := hid (horn_take ds k hlt)
          have hkm : k < m + 1 := by omega
          generalize ds[k] = d at hc hd HH
          generalize horn (ds.take k) = n at hh HH ⊢
          go_wp2
          go_loop [8] (fun x => ∃ y : Nat, x = .int .i64 y ∧ y % 97 = horn (ds.take (k + 1)) ∧ y ≤ 2000) (fun x => (intOf x).toNat)
          case atStart => exact ⟨10 * n + d, by go_num, HH.out.symm, by omega⟩
          case round =>
            obtain ⟨y, rfl, hy, hy2⟩ := hrel
            have HY := hid hy
            clear hy
            by_cases h97 : 97 ≤ y
            · go_wp2
              go_round
              case rel => exact ⟨y - 97, by go_num, by rw [← HY.out]; omega, by omega⟩
              case measure => simp [intOf]; omega
            · go_wp2
              go_round
              case rel => exact ⟨k + 1, by omega, by go_num, by rw [← HY.out, Nat.mod_eq_of_lt (by omega)]⟩
              case measure => simp [intOf]; omega
        · obtain rfl : k = ds.length := by omega
          go_wp2
          go_returns
          rw [HV.out]
          refine ⟨?_, hb⟩
          rw [List.take_of_length_le (by omega)]
          rfl

theorem refRest_any (s : ByteArray) (w : World) (hs2 : s.size ≤ 1000) :
    Calls Try.prog 8 #[.string s] w fun e w' => e = .returned (.tuple #[.int .i64 ((restV s.data.toList).1 : Nat), .bool (restV s.data.toList).2]) ∧ Below w.heap.size w w' := by
  by_cases hs : 4 ≤ s.size
  · exact refRest_long s w hs hs2
  · have e : restV s.data.toList = (0, false) := by rw [restV, if_neg (by simp; omega)]
    rw [e]
    exact refRest_short s w (by omega)
end Go.Proofs.Ythpjfhgpmcmdiaa
