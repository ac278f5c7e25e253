/-
  The walk of BicTurns.
-/
import Derived.Test.YtfelomakgdplfaaBcW
import Derived.Test.YtfelomakgdplfaaRow
import Derived.Deep.DeepCutAuto
import Derived.Lib.SlBytesConst
namespace Go.Proofs.Ytfelomakgdplfaa
open Go.RowKit

set_option maxHeartbeats 1000000 in
theorem bTurns_long (s : ByteArray) (a b : Nat) (w : World) (hs : s.size ≤ 9223372036854775807) (hl : 60 < s.size) :
    Calls Try.prog 4 #[.string s, .int .u8 a, .int .u8 b] w fun e w' => e = .returned (.bool true) ∧ Below w.heap.size w w' := by
  go_enter Try.func4, Try.ntmps4
  go_wp2_with (go_at_call 6; with_reducible refine (bicwakes_any _).mono ?_; rintro e w1 ⟨rfl, h1⟩)
  go_returns
  exact ⟨rfl, h1⟩

set_option maxHeartbeats 1000000 in
theorem bTurns_bad (s : ByteArray) (a b : Nat) (w : World) (hl : s.size ≤ 60) (h : bicV s.data.toList = false) :
    Calls Try.prog 4 #[.string s, .int .u8 a, .int .u8 b] w fun e w' => e = .returned (.bool true) ∧ Below w.heap.size w w' := by
  have C := hid (fun w' => biccheck_any s (by omega) w')
  rw [h] at C
  simp only [errB, Bool.false_eq_true, if_false] at C
  clear h
  go_enter Try.func4, Try.ntmps4
  go_wp2_with (first
    | (go_at_call 13; with_reducible refine (C.out _).mono ?_; rintro e w1 ⟨rfl, h1⟩)
    | (go_at_call 6; with_reducible refine (bicwakes_any _).mono ?_; rintro e w2 ⟨rfl, h2⟩))
  go_returns
  exact ⟨rfl, h1.trans (h2.mono h1.size)⟩

theorem fullS_list (s : ByteArray) : (fullS s).data.toList = fullL s.data.toList := rfl
theorem shortS_list (s : ByteArray) : (shortS s).data.toList = shortL s.data.toList := rfl
theorem addrS_list (s : ByteArray) : (addrS s).data.toList = addrL s.data.toList := rfl
theorem full_sz {s : ByteArray} (h : bicV s.data.toList = true) : (fullS s).size = 11 := by simpa [fullS, ByteArray.size] using full_len h
theorem short_sz {s : ByteArray} (h : bicV s.data.toList = true) : (shortS s).size ≤ 11 := by simpa [shortS, ByteArray.size] using short_len h
theorem addr_sz {s : ByteArray} (h : bicV s.data.toList = true) : (addrS s).size = 12 := by simpa [addrS, ByteArray.size] using addr_len h

set_option maxRecDepth 100000 in
set_option maxHeartbeats 8000000 in
theorem bTurns_good (s : ByteArray) (a b : Nat) (ha : a ≤ 255) (hb : b ≤ 255) (w : World) (hl : s.size ≤ 60) (h : bicV s.data.toList = true) :
    Calls Try.prog 4 #[.string s, .int .u8 a, .int .u8 b] w fun e w' => e = .returned (.bool true) ∧ Below w.heap.size w w' := by
  have C := hid (fun w' => biccheck_any s (by omega) w')
  have F := hid (fun w' => bicfull_any s (by omega) w')
  have T := hid (fun w' => bicshort_any s (by omega) w')
  have D := hid (fun w' => bicaddress_any s (by omega) w')
  have TF := hid (fun w' => bicshort_any (fullS s) (by rw [full_sz h]; decide) w')
  have FT := hid (fun w' => bicfull_any (shortS s) (by have := short_sz h; omega) w')
  have OA := hid (fun w' => bicof_any (addrS s) (by rw [addr_sz h]; decide) w')
  have e1 : shortS (fullS s) = shortS s := by rw [shortS, fullS_list, short_full h]; rfl
  have e2 : fullS (shortS s) = fullS s := by rw [fullS, shortS_list, full_short]; rfl
  have e3 : ofS (addrS s) = shortS s := by rw [ofS, addrS_list, of_addr h]; rfl
  rw [fullS_list, full_bic h, e1] at TF
  rw [shortS_list, short_bic h, e2] at FT
  rw [addrS_list, addr_addr h, e3] at OA
  rw [h] at C F T D
  simp only [errB, if_true] at C F T D TF FT OA
  have CB := hid (fun (l : List UInt8) (hx : bicV l = false) (hl : l.length ≤ 1000) w' => biccheck_any ⟨l.toArray⟩ hl w')
  have z1 : (fullS s).size = 11 := full_sz h
  have z2 : (addrS s).size = 12 := addr_sz h
  have hlen : s.data.toList.length = s.size := by simp
  have h8 : 8 ≤ s.size := by have := (bicV_iff.1 h).1; omega
  obtain ⟨m, hm⟩ : ∃ m : Nat, (a : Int) % (s.size : Int) = (m : Int) := ⟨a % s.size, by omega⟩
  have hml : m < s.size := by have := Int.emod_lt_of_pos (a : Int) (show 0 < (s.size : Int) by omega); omega
  generalize addrS s = d at *
  generalize shortS s = t at *
  generalize fullS s = f at *
  have hcv2 := fun w s => run_bytes_of_string (P := Try.prog) w 9 29 5 s Try.underlying9 Try.underlying29 Try.underlying5
  have hcs := fun w C n c => Lib.run_convert_bytes_const (P := Try.prog) w 29 5 C n c Try.underlying29 Try.underlying5
  go_enter Try.func4, Try.ntmps4
  go_wp2_with fail
  refine (C.out _).mono ?_
  rintro e w1 ⟨rfl, h1⟩
  go_wp2_with fail
  refine (F.out _).mono ?_
  rintro e w2 ⟨rfl, h2⟩
  have b2 := h1.trans (h2.mono h1.size)
  clear h1 h2
  go_wp2_with fail
  refine (T.out _).mono ?_
  rintro e w3 ⟨rfl, h3⟩
  have b3 := b2.trans (h3.mono b2.size)
  clear b2 h3
  go_wp2_with fail
  refine (D.out _).mono ?_
  rintro e w4 ⟨rfl, h4⟩
  have b4 := b3.trans (h4.mono b3.size)
  clear b3 h4
  go_wp2_with fail
  refine (TF.out _).mono ?_
  rintro e w5 ⟨rfl, h5⟩
  have b5 := b4.trans (h5.mono b4.size)
  clear b4 h5
  go_wp2_with fail
  refine (FT.out _).mono ?_
  rintro e w6 ⟨rfl, h6⟩
  have b6 := b5.trans (h6.mono b5.size)
  clear b5 h6
  go_wp2_with fail
  refine (OA.out _).mono ?_
  rintro e w7 ⟨rfl, h7⟩
  have b7 := b6.trans (h7.mono b6.size)
  clear b6 h7 C F T D TF FT OA
  go_upto_region 17 with fail
  rw [hm]
  have R3 := hid (RowU.new w7 s (grownCap w7 s.size 0 5) 5)
  have b8 : Below w.heap.size w ((w7.alloc (.cells (bytesRow s (grownCap w7 s.size 0 5)) 5 ((bytesRow s (grownCap w7 s.size 0 5)).size, (bytesRow s (grownCap w7 s.size 0 5)).size + 1))).drew) := (b7.alloc b7.size _).drew
  have hB := b7.size
  have hz3 : w7.heap.size < ((w7.alloc (.cells (bytesRow s (grownCap w7 s.size 0 5)) 5 ((bytesRow s (grownCap w7 s.size 0 5)).size, (bytesRow s (grownCap w7 s.size 0 5)).size + 1))).drew).heap.size := by simp [go_sem]
  generalize ((w7.alloc (.cells (bytesRow s (grownCap w7 s.size 0 5)) 5 ((bytesRow s (grownCap w7 s.size 0 5)).size, (bytesRow s (grownCap w7 s.size 0 5)).size + 1))).drew) = w8 at *
  generalize grownCap w7 s.size 0 5 = cap at *
  generalize w7.heap.size = B at *
  clear b7 hcv2
  have hli : m < s.data.toList.length := by omega
  have HF := hid (fun (c : UInt8) (hc : ibOk c = false) => bic_fault hli hc)
  have hlen2 := hid (fun c : UInt8 => show (s.data.toList.set m c).length = s.size by simp)
  obtain ⟨c3, f3⟩ := R3.out m hli
  have hb5 : (b : Int) % 5 = 0 ∨ (b : Int) % 5 = 1 ∨ (b : Int) % 5 = 2 ∨ (b : Int) % 5 = 3 ∨ (b : Int) % 5 = 4 := by omega
  obtain ⟨c, hc, hcc⟩ : ∃ c : UInt8, ibOk c = false ∧ ((b : Int) % 5 = 0 ∧ c = 45 ∨ (b : Int) % 5 = 1 ∧ c = 97 ∨ (b : Int) % 5 = 2 ∧ c = 32 ∨ (b : Int) % 5 = 3 ∧ c = 46 ∨ (b : Int) % 5 = 4 ∧ c = 33) := by
    rcases hb5 with h | h | h | h | h
    · exact ⟨45, by decide, .inl ⟨h, rfl⟩⟩
    · exact ⟨97, by decide, .inr (.inl ⟨h, rfl⟩)⟩
    · exact ⟨32, by decide, .inr (.inr (.inl ⟨h, rfl⟩))⟩
    · exact ⟨46, by decide, .inr (.inr (.inr (.inl ⟨h, rfl⟩)))⟩
    · exact ⟨33, by decide, .inr (.inr (.inr (.inr ⟨h, rfl⟩)))⟩
  go_cut [] from 111 to 119 (fun wx => RowU wx B (s.data.toList.set m c) ∧ Below w.heap.size w wx ∧ B < wx.heap.size)
  case first =>
    rcases hcc with ⟨h, rfl⟩ | ⟨h, rfl⟩ | ⟨h, rfl⟩ | ⟨h, rfl⟩ | ⟨h, rfl⟩
    all_goals
      have hce := fun j => World.cell?_alloc_mark w8 #[.int .u8 45, .int .u8 97, .int .u8 32, .int .u8 46, .int .u8 33] 5 (5, 6) j
      have c4 := Lib.cell?_alloc_marked (.cells #[.int .u8 45, .int .u8 97, .int .u8 32, .int .u8 46, .int .u8 33] 5 (5, 6)) c3
      go_wp2
      go_meet
      exact turned_row R3.out hli b8 hB hz3 _ _
  case rest =>
    obtain ⟨R4, b9, hz4⟩ := hcut
    have hcv4 := R4.text (cap := cap) (n := s.size) (hlen2.out c)
    have hl4 : (s.data.toList.set m c).length ≤ 1000 := by simp; omega
    have hno := HF.out c hc
    have hcc2 := hid hno
    have CB2 := hid (fun w' => CB.out _ hno hl4 w')
    rw [hno] at CB2
    simp only [errB, Bool.false_eq_true, if_false] at CB2
    clear R3 R4 c3 f3 hz3 b8 hno HF CB hcc hb5 hlen2
    generalize s.data.toList.set m c = l4 at *
    go_wp2_with fail
    refine (CB2.out _).mono ?_
    rintro e w9 ⟨rfl, h9⟩
    have b10 := b9.trans (h9.mono b9.size)
    clear h9 b9 hcv4 hz4 hl4
    go_wp2_with fail
    refine (bicwakes_any _).mono ?_
    rintro e w10 ⟨rfl, h10⟩
    go_wp2
    go_returns
    exact ⟨rfl, b10.trans (h10.mono b10.size)⟩

theorem u8_nat (x : Int) (h : (Lit.int .u8 x).wf = true) : ∃ n : Nat, x = (n : Int) ∧ n ≤ 255 := by
  have e1 : IntKind.u8.min = 0 := by decide
  have e2 : IntKind.u8.max = 255 := by decide
  rw [Lit.wf, e1, e2, Bool.and_eq_true, decide_eq_true_eq, decide_eq_true_eq] at h
  exact ⟨x.toNat, by omega, by omega⟩

theorem bTurns_any (s : ByteArray) (hs : s.size ≤ 9223372036854775807) (t : Int) (ht : (Lit.int .u8 t).wf = true) (u : Int) (hu : (Lit.int .u8 u).wf = true) (w : World) :
    Calls Try.prog 4 #[.string s, .int .u8 t, .int .u8 u] w fun e w' => e = .returned (.bool true) ∧ Below w.heap.size w w' := by
  obtain ⟨a, rfl, ha⟩ := u8_nat t ht
  obtain ⟨b, rfl, hb⟩ := u8_nat u hu
  by_cases h : s.size ≤ 60
  · by_cases hv : bicV s.data.toList = true
    · exact bTurns_good s a b ha hb w h hv
    · exact bTurns_bad s a b w h (by simpa using hv)
  · exact bTurns_long s a b w hs (by omega)
end Go.Proofs.Ytfelomakgdplfaa
