/-
  The document's own answers: cut, read.
-/
import Derived.Test.YtjpndajbkemnlaaRefA
import Derived.Test.YtjpndajbkemnlaaDigits
import Derived.Test.YtjpndajbkemnlaaText
import Derived.OwnWalk
namespace Go.Proofs.Ytjpndajbkemnlaa
open Go.RowKit Go.Shelf

theorem index_at : ∀ {l : List UInt8} {c : UInt8} {k : Nat}, l[k]? = some c → (∀ j, j < k → l[j]? ≠ some c) → Lib.indexByte l c = k := by
  intro l c k h1 h2
  by_cases h : Lib.indexByte l c = -1
  · exact absurd h1 (Lib.indexByte_none h k)
  · have hg := Lib.indexByte_ge l c
    obtain ⟨o, ho⟩ : ∃ o : Nat, Lib.indexByte l c = o := ⟨_, (Int.toNat_of_nonneg (by omega)).symm⟩
    obtain ⟨h3, h4⟩ := Lib.indexByte_some ho
    have : ¬ o < k := fun hlt => h2 o hlt h3
    have : ¬ k < o := fun hlt => h4 k hlt h1
    rw [ho]; omega
theorem index_never {l : List UInt8} {c : UInt8} (h2 : ∀ j, j < l.length → l[j]? ≠ some c) : Lib.indexByte l c = -1 := by
  by_cases h : Lib.indexByte l c = -1
  · exact h
  · have hg := Lib.indexByte_ge l c
    obtain ⟨o, ho⟩ : ∃ o : Nat, Lib.indexByte l c = o := ⟨_, (Int.toNat_of_nonneg (by omega)).symm⟩
    obtain ⟨h3, _⟩ := Lib.indexByte_some ho
    exact absurd h3 (h2 o (List.getElem?_eq_some_iff.1 h3).1)
/-- None of the first k bytes is c. -/
def NoC (s : ByteArray) (c : UInt8) (k : Nat) : Prop := ∀ j, j < k → s.data.toList[j]? ≠ some c
theorem NoC.zero (s : ByteArray) (c : UInt8) : NoC s c 0 := fun _ h => absurd h (Nat.not_lt_zero _)
theorem byte_get (s : ByteArray) (k : Nat) (h : k < s.size) : s.data.toList[k]? = some s[k] := by
  rw [ByteArray.getElem_eq_getElem_data, List.getElem?_eq_getElem (by simpa using h)]; rfl
theorem NoC.succ {s : ByteArray} {c : UInt8} {k : Nat} (hk : k < s.size) (h : NoC s c k) (hne : s[k] ≠ c) : NoC s c (k + 1) := fun j hj => by
  by_cases e : j = k
  · subst e; rw [byte_get s j hk]; exact fun e => hne (Option.some.inj e)
  · exact h j (by omega)

set_option maxHeartbeats 400000 in
theorem refCut_any (s : ByteArray) (c : UInt8) (w : World) (hs : s.size ≤ 9223372036854775806) :
    Calls Try.prog 35 #[.string s, .int .u8 c.toNat] w fun e w' => e = .returned (.int .i64 (Lib.indexByte s.data.toList c)) ∧ w = w' := by
  go_enter Try.func35, Try.ntmps35
  go_wp2
  go_loop [5] (fun i => ∃ k : Nat, k ≤ s.size ∧ i = .int .i64 k ∧ NoC s c k) (fun i => s.size - (intOf i).toNat)
  case atStart => exact ⟨0, Nat.zero_le _, rfl, NoC.zero s c⟩
  case round =>
    obtain ⟨k, hk, rfl, hn⟩ := hrel
    by_cases hlt : k < s.size
    · by_cases he : s[k] = c
      · have hi := hid (index_at (by rw [byte_get s k hlt, he]) hn)
        have hE : ((s[k].toNat : Int) == (c.toNat : Int)) = true := by rw [he]; simp
        clear he
        go_wp2
        go_ret
        exact ⟨ret_int hi.out.symm, rfl⟩
      · have hn2 := hn.succ hlt he
        have hE : ((s[k].toNat : Int) == (c.toNat : Int)) = false := by
          rw [beq_eq_false_iff_ne]; intro e; exact he (UInt8.toNat_inj.1 (by omega))
        clear he
        go_wp2
        go_round
        case rel => exact ⟨k + 1, by omega, by go_num, hn2⟩
        case measure => simp [intOf]; omega
    · obtain rfl : k = s.size := by omega
      have hi := hid (index_never (l := s.data.toList) (c := c) (fun j hj => hn j (by rw [size_list] at hj; exact hj)))
      go_wp2
      go_ret
      exact ⟨ret_int hi.out.symm, rfl⟩

/-- The digits of a text, as values. -/
def dvals (s : ByteArray) (k : Nat) : List Value := (s.data.toList.take k).map fun c => Value.int .i64 ((c.toNat : Int) - 48)
theorem dvals_succ (s : ByteArray) (k : Nat) (h : k < s.size) : dvals s (k + 1) = dvals s k ++ [.int .i64 ((s[k].toNat : Int) - 48)] := by
  have h' : k < s.data.toList.length := by simpa using h
  rw [dvals, dvals, List.take_succ_eq_append_getElem h', List.map_append]
  rfl
/-- The first k bytes are digits. -/
def AllD (s : ByteArray) (k : Nat) : Prop := ∀ j, j < k → isDg s j = true
theorem AllD.succ {s : ByteArray} {k : Nat} (h : AllD s k) (hk : isDg s k = true) : AllD s (k + 1) := fun j hj => by
  by_cases e : j = k
  · subst e; exact hk
  · exact h j (by omega)
theorem bt_get (s : ByteArray) (k : Nat) (h : k < s.size) : s[k].toNat = bt s k := by rw [bt, byte_get s k h]; rfl
theorem allB_of {s : ByteArray} (h : AllD s s.size) : allB s = true := by
  simp only [allB, List.all_eq_true, List.mem_range]
  exact h
theorem allB_not {s : ByteArray} {k : Nat} (hk : k < s.size) (h : isDg s k = false) : allB s = false := by
  simp only [allB, List.all_eq_false, List.mem_range]
  exact ⟨k, hk, by simp [h]⟩
theorem info_i64 : (Try.prog.info? 2).map (fun i => (i.zero, i.size, i.bytes)) = some (some (.int .i64 0), 1, 8) := by kernel_rfl

/-- What read tells: the digits in a new row, or nothing. -/
def ReadPost (s : ByteArray) (w : World) (e : Ending) (w' : World) : Prop :=
  Below w.heap.size w w' ∧ ((allB s = true ∧ ∃ v, e = .returned (.tuple #[v, .bool true]) ∧ w'.ownsRow w.heap.size 2 1 v s.size (dvals s s.size)) ∨ (allB s = false ∧ e = .returned (.tuple #[.slice none 0 0, .bool false])))

set_option maxRecDepth 1000000 in
set_option maxHeartbeats 1600000 in
theorem refRead_any (s : ByteArray) (w : World) (hs : s.size ≤ 1000000) : Calls Try.prog 36 #[.string s] w (ReadPost s w) := by
  obtain ⟨i0, hi, hz0, hz1, hz2⟩ := info_parts info_i64
  go_enter Try.func36, Try.ntmps36
  go_wp2
  go_loopw [4, 5] (fun v i wr => ∃ k : Nat, k ≤ s.size ∧ i = .int .i64 k ∧ wr.ownsRow w.heap.size 2 1 v k (dvals s k) ∧ AllD s k ∧ Below w.heap.size w wr) (fun _ i _ => s.size - (intOf i).toNat)
  case atStart => exact ⟨0, Nat.zero_le _, rfl, World.ownsRow_nil _ _ _ _, fun _ h => absurd h (Nat.not_lt_zero _), Below.refl _ _⟩
  case round =>
    obtain ⟨k, hk, rfl, hown, hall, hb⟩ := hrel
    have HA := hid hall
    clear hall
    by_cases hlt : k < s.size
    · have HDV := hid (dvals_succ s k hlt)
      by_cases hd : 48 ≤ s[k].toNat ∧ s[k].toNat ≤ 57
      · obtain ⟨hd1, hd2⟩ := hd
        have hdg : Hid (isDg s k = true) := by show _ = _; rw [isDg, ← bt_get s k hlt]; simp [hd1, hd2]
        go_wp2_with (at_builtin; refine wpList_append_own _ rfl _ _ 58 rfl w.heap.size 2 i0 (.int .i64 0) 1 8 Try.underlying58 hi hz0 hz1 hz2 rfl (by decide) _ _ _ rfl (hown.alloc _) ⟨wr.heap.size, 0, none⟩ 1 1 [.int .i64 ((s[k].toNat : Int) - 48)] rfl rfl ?c1 ?c2 ?c3 ?c4 ?c5 ?_)
        case c1 =>
          intro j u hj
          match j, hj with
          | 0, hj => simp at hj; subst hj; simp [Addr.add]
        case c2 => intro u hu; simp at hu; subst hu; rfl
        case c3 => unfold maxLen; omega
        case c4 => omega
        case c5 => have := hb.size; simp; omega
        intro v' w1 hown' hgrow _
        have hb' : Below w.heap.size w w1 := (hb.alloc hb.size _).grown hgrow (by have := hb.size; simp; omega) (fun j hj => (hown.lt j hj).1)
        clear hgrow hown hb
        have HO := hid hown'
        clear hown'
        go_wp2
        go_roundw
        case rel => exact ⟨k + 1, by omega, by go_num, by rw [HDV.out]; exact HO.out, HA.out.succ hdg.out, hb'⟩
        case measure => simp [intOf]; omega
      · have hdg : Hid (isDg s k = false) := by
          show _ = _
          rw [isDg, ← bt_get s k hlt]
          simp only [Bool.and_eq_false_iff, decide_eq_false_iff_not]
          omega
        have hall := hid (allB_not hlt hdg.out)
        by_cases hd1 : 48 ≤ s[k].toNat
        · have hd2 : 57 < s[k].toNat := by omega
          clear hd
          go_wp2
          go_ret2
          exact ⟨hb, .inr ⟨hall.out, rfl⟩⟩
        · have hd2 : s[k].toNat < 48 := by omega
          clear hd hd1
          go_wp2
          go_ret2
          exact ⟨hb, .inr ⟨hall.out, rfl⟩⟩
    · obtain rfl : k = s.size := by omega
      have hall := hid (allB_of HA.out)
      have HO := hid hown
      clear hown
      go_wp2
      go_ret2
      exact ⟨hb, .inl ⟨hall.out, _, rfl, HO.out⟩⟩
end Go.Proofs.Ytjpndajbkemnlaa
