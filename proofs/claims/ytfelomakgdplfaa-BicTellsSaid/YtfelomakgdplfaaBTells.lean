/-
  The walk of BicTells.
-/
import Derived.Test.YtfelomakgdplfaaBcW
import Derived.Lib.QuietBelow
import Derived.Deep.DeepCutAuto
namespace Go.Proofs.Ytfelomakgdplfaa
open Go.RowKit

set_option maxHeartbeats 1000000 in
theorem bTells_long (s : ByteArray) (w : World) (hs : s.size ≤ 9223372036854775807) (hl : 60 < s.size) :
    Calls Try.prog 3 #[.string s] w fun e w' => e = .returned (.bool true) ∧ Below w.heap.size w w' := by
  go_enter Try.func3, Try.ntmps3
  go_wp2_with (go_at_call 6; with_reducible refine (bicwakes_any _).mono ?_; rintro e w1 ⟨rfl, h1⟩)
  go_returns
  exact ⟨rfl, h1⟩

theorem full_size {s : ByteArray} (h : bicV s.data.toList = true) : (fullS s).size = 11 := by
  rw [fullS]; simp only [ByteArray.size, List.size_toArray]; exact full_len h
theorem addr_parts (s : ByteArray) : (fullS s).extract 0 8 ++ ⟨#[88]⟩ ++ (fullS s).extract 8 (fullS s).size = addrS s := ib_str_eq (by
  have e : (fullS s).data.toList = fullL s.data.toList := rfl
  have e2 : (fullS s).size = (fullL s.data.toList).length := by simp [fullS, ByteArray.size]
  rw [ByteArray.data_append, Array.toList_append, ByteArray.data_append, Array.toList_append, ext_lst, ext_lst, e, e2, List.take_length, List.drop_zero]
  rw [addrS, addrL]
  simp)
theorem of_parts (s : ByteArray) : shortS (s.extract 0 8 ++ s.extract 9 s.size) = ofS s := by
  have e : (s.extract 0 8 ++ s.extract 9 s.size).data.toList = s.data.toList.take 8 ++ s.data.toList.drop 9 := by
    rw [ByteArray.data_append, Array.toList_append, ext_lst, ext_lst, List.drop_zero, take_all]
  rw [shortS, ofS, ofL, e]
theorem addrV_len {l : List UInt8} (h : addrV l = true) : l.length = 12 := (shapeV_iff.1 h).1

set_option maxRecDepth 100000 in
set_option maxHeartbeats 8000000 in
theorem bTells_short (s : ByteArray) (w : World) (hs : s.size ≤ 60) :
    Calls Try.prog 3 #[.string s] w fun e w' => e = .returned (.bool true) ∧ Below w.heap.size w w' := by
  have F := hid (fun w' => bicfull_any s (by omega) w')
  have H := hid (fun w' => bicshort_any s (by omega) w')
  have D := hid (fun w' => bicaddress_any s (by omega) w')
  have O := hid (fun w' => bicof_any s (by omega) w')
  have C := hid (fun w' => biccheck_any s (by omega) w')
  have G := hid (fun w' => bicaddr_any s (by omega) w')
  have RC := hid (fun w' => refbic_any s w')
  have RG := hid (fun w' => refaddr_any s w')
  have RF := hid (fun w' => reffull_any s w')
  have RS := hid (fun w' => refshort_any s w')
  have RO := hid (fun w' => refshort_any (s.extract 0 8 ++ s.extract 9 s.size) w')
  rw [of_parts] at RO
  have zA : addrV s.data.toList = true → 12 ≤ s.size := fun h => by have := addrV_len h; simp at this; omega
  have zF : bicV s.data.toList = true → 11 ≤ (fullS s).size ∧ (fullS s).size ≤ 11 := fun h => by have := full_size h; omega
  have hA := hid (addr_parts s)
  generalize bicV s.data.toList = bv at *
  generalize addrV s.data.toList = av at *
  generalize ofS s = o at *
  generalize addrS s = d at *
  generalize shortS s = t at *
  generalize fullS s = f at *
  have z0 : (⟨#[]⟩ ++ ⟨#[]⟩ : ByteArray) = ⟨#[]⟩ := rfl
  have z1 : (⟨#[]⟩ : ByteArray).size = 0 := rfl
  have zx : (⟨#[88]⟩ : ByteArray).size = 1 := rfl
  cases bv <;> cases av
  all_goals
    simp only [errB, if_true, Bool.false_eq_true, if_false] at F H D O C G RC RG
    simp only [Bool.false_eq_true, false_implies, forall_const] at zA zF
    go_enter Try.func3, Try.ntmps3
    go_wp2_with fail
    refine (F.out _).mono ?_
    rintro e w1 ⟨rfl, h1⟩
    go_wp2_with fail
    refine (H.out _).mono ?_
    rintro e w2 ⟨rfl, h2⟩
    have b2 := h1.trans (h2.mono h1.size)
    clear h1 h2
    go_wp2_with fail
    refine (D.out _).mono ?_
    rintro e w3 ⟨rfl, h3⟩
    have b3 := b2.trans (h3.mono b2.size)
    clear b2 h3
    go_wp2_with fail
    refine (O.out _).mono ?_
    rintro e w4 ⟨rfl, h4⟩
    have b4 := b3.trans (h4.mono b3.size)
    clear b3 h4
    go_wp2_with fail
    refine (RC.out _).mono ?_
    rintro e w5 ⟨rfl, hw5⟩
    obtain rfl := hw5.symm
    go_wp2_with fail
    refine (RG.out _).mono ?_
    rintro e w6 ⟨rfl, hw6⟩
    obtain rfl := hw6.symm
    go_wp2_with fail
    refine (C.out _).mono ?_
    rintro e w7 ⟨rfl, h7⟩
    have b7 := b4.trans (h7.mono b4.size)
    clear b4 h7
    go_wp2_with fail
    refine (G.out _).mono ?_
    rintro e w8 ⟨rfl, h8⟩
    have b8 := b7.trans (h8.mono b7.size)
    clear b7 h8 F H D O C G RC RG
    go_upto_region 12 with fail
  iterate 2
    go_quiet (fail)
    have b9 := ib_below_drewN b8 nq
    generalize w8.drewN nq = U at b9 ⊢
    clear b8
    go_upto_region 14 with fail
    have hUz := b9.size
    have cW := hid (fun d os => Calls.regrown_of (bicwakes_any (Sort.grow (redrawn U d) os)))
    have cS := hid (fun d os => Calls.regrown_of ((RO.out (Sort.grow (redrawn U d) os)).mono fun _ _ ⟨he, hw⟩ => ⟨he, by rw [hw]; exact Below.refl _ _⟩))
    refine wp_region_quiet_below (by kernel_rfl) (by kernel_rfl) ?_
    first
      | (have y8 : (8 : Int) ≤ (s.size : Int) := by omega
         have y9 : (9 : Int) ≤ (s.size : Int) := by omega)
      | skip
    repeat (go_big_quiet_step (first | (go_at_call 6; with_reducible exact cW.out _ _) | (go_at_call 16; with_reducible exact cS.out _ _)))
    refine wpQuiet_nil ?_
    intro _ hw'
    obtain ⟨⟨dq, osq⟩, hw''⟩ := hw'
    subst hw''
    go_wp2
    go_returns
    exact ⟨rfl, b9.trans ((below_regrown U dq osq).mono hUz)⟩
  all_goals
    have hA' := hA.out
    clear hA
    go_quiet (first | (go_at_call 15; with_reducible exact Calls.quiet_of_same (RF.out _)) | (go_at_call 16; with_reducible exact Calls.quiet_of_same (RS.out _)))
    clear hA'
    have b9 := ib_below_drewN b8 nq
    generalize w8.drewN nq = U at b9 ⊢
    clear b8
    go_upto_region 14 with fail
    have hUz := b9.size
    have cW := hid (fun d os => Calls.regrown_of (bicwakes_any (Sort.grow (redrawn U d) os)))
    have cS := hid (fun d os => Calls.regrown_of ((RO.out (Sort.grow (redrawn U d) os)).mono fun _ _ ⟨he, hw⟩ => ⟨he, by rw [hw]; exact Below.refl _ _⟩))
    refine wp_region_quiet_below (by kernel_rfl) (by kernel_rfl) ?_
    first
      | (have y8 : (8 : Int) ≤ (s.size : Int) := by omega
         have y9 : (9 : Int) ≤ (s.size : Int) := by omega)
      | skip
    repeat (go_big_quiet_step (first | (go_at_call 6; with_reducible exact cW.out _ _) | (go_at_call 16; with_reducible exact cS.out _ _)))
    refine wpQuiet_nil ?_
    intro _ hw'
    obtain ⟨⟨dq, osq⟩, hw''⟩ := hw'
    subst hw''
    go_wp2
    go_returns
    exact ⟨rfl, b9.trans ((below_regrown U dq osq).mono hUz)⟩

theorem bTells_any (s : ByteArray) (hs : s.size ≤ 9223372036854775807) (w : World) :
    Calls Try.prog 3 #[.string s] w fun e w' => e = .returned (.bool true) ∧ Below w.heap.size w w' := by
  by_cases h : s.size ≤ 60
  · exact bTells_short s w h
  · exact bTells_long s w hs (by omega)
end Go.Proofs.Ytfelomakgdplfaa
