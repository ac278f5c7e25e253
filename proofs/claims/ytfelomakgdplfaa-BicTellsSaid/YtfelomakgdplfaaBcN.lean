/-
  Bank codes, as plain lists: codes, addresses, their full and short forms.
-/
import Derived.Test.YtfelomakgdplfaaIbN
namespace Go.Proofs.Ytfelomakgdplfaa

/-- A text of a length, of letters and digits, with letters at 4 and 5. -/
def shapeV (l : List UInt8) (n : Nat) : Bool := decide (l.length = n) && (l.all ibOk && (ibLt (l.getD 4 0) && ibLt (l.getD 5 0)))
theorem shapeV_iff {l : List UInt8} {n : Nat} : shapeV l n = true ↔ l.length = n ∧ l.all ibOk = true ∧ ibLt (l.getD 4 0) = true ∧ ibLt (l.getD 5 0) = true := by
  simp only [shapeV, Bool.and_eq_true, decide_eq_true_eq]
def bicV (l : List UInt8) : Bool := shapeV l 8 || shapeV l 11
def addrV (l : List UInt8) : Bool := shapeV l 12
/-- OK, or ErrBic. -/
def errB (b : Bool) : Int := if b then 0 else 14
def fullL (l : List UInt8) : List UInt8 := if l.length = 8 then l ++ [88, 88, 88] else l
def shortL (l : List UInt8) : List UInt8 := if l.length = 11 ∧ l.drop 8 = [88, 88, 88] then l.take 8 else l
def addrL (l : List UInt8) : List UInt8 := (fullL l).take 8 ++ (88 :: (fullL l).drop 8)
def ofL (a : List UInt8) : List UInt8 := shortL (a.take 8 ++ a.drop 9)

theorem bicV_iff {l : List UInt8} : bicV l = true ↔ (l.length = 8 ∨ l.length = 11) ∧ l.all ibOk = true ∧ ibLt (l.getD 4 0) = true ∧ ibLt (l.getD 5 0) = true := by
  simp only [bicV, Bool.or_eq_true, shapeV_iff]
  constructor
  · rintro (⟨h1, h2⟩ | ⟨h1, h2⟩)
    · exact ⟨.inl h1, h2⟩
    · exact ⟨.inr h1, h2⟩
  · rintro ⟨h1 | h1, h2⟩
    · exact .inl ⟨h1, h2⟩
    · exact .inr ⟨h1, h2⟩
theorem getD_app {a b : List UInt8} {i : Nat} (h : i < a.length) : (a ++ b).getD i 0 = a.getD i 0 := by
  rw [List.getD_eq_getElem?_getD, List.getD_eq_getElem?_getD, List.getElem?_append_left h]
theorem getD_take {a : List UInt8} {i n : Nat} (h : i < n) : (a.take n).getD i 0 = a.getD i 0 := by
  rw [List.getD_eq_getElem?_getD, List.getD_eq_getElem?_getD, List.getElem?_take_of_lt h]
theorem all_take {a : List UInt8} (n : Nat) (h : a.all ibOk = true) : (a.take n).all ibOk = true := by
  rw [List.all_eq_true] at h ⊢
  exact fun c hc => h c (List.mem_of_mem_take hc)
theorem all_drop {a : List UInt8} (n : Nat) (h : a.all ibOk = true) : (a.drop n).all ibOk = true := by
  rw [List.all_eq_true] at h ⊢
  exact fun c hc => h c (List.mem_of_mem_drop hc)
theorem ok_x : ibOk 88 = true := by decide

theorem full_len {l : List UInt8} (h : bicV l = true) : (fullL l).length = 11 := by
  obtain ⟨hl | hl, _⟩ := bicV_iff.1 h
  · rw [fullL, if_pos hl, List.length_append, hl]; rfl
  · rw [fullL, if_neg (by omega), hl]
theorem full_bic {l : List UInt8} (h : bicV l = true) : bicV (fullL l) = true := by
  rw [bicV_iff, full_len h]
  obtain ⟨hl | hl, h1, h2, h3⟩ := bicV_iff.1 h
  · refine ⟨.inr rfl, ?_⟩
    rw [fullL, if_pos hl, List.all_append, getD_app (by omega), getD_app (by omega), h1]
    exact ⟨rfl, h2, h3⟩
  · rw [fullL, if_neg (by omega)]
    exact ⟨.inr rfl, h1, h2, h3⟩
theorem short_bic {l : List UInt8} (h : bicV l = true) : bicV (shortL l) = true := by
  rw [shortL]
  split
  · rename_i hs
    obtain ⟨_, h1, h2, h3⟩ := bicV_iff.1 h
    rw [bicV_iff, getD_take (by omega), getD_take (by omega)]
    exact ⟨.inl (by simp [hs.1]), all_take 8 h1, h2, h3⟩
  · exact h
theorem short_len {l : List UInt8} (h : bicV l = true) : (shortL l).length ≤ 11 := by
  obtain ⟨hl, _⟩ := bicV_iff.1 (short_bic h)
  omega
theorem addr_len {l : List UInt8} (h : bicV l = true) : (addrL l).length = 12 := by
  have := full_len h
  simp [addrL, this]
theorem addr_addr {l : List UInt8} (h : bicV l = true) : addrV (addrL l) = true := by
  rw [addrV, shapeV_iff]
  have hl := full_len h
  obtain ⟨_, h1, h2, h3⟩ := bicV_iff.1 (full_bic h)
  refine ⟨addr_len h, ?_, ?_, ?_⟩
  · rw [addrL, List.all_append, List.all_cons, all_take 8 h1, all_drop 8 h1, ok_x]; rfl
  · rw [addrL, getD_app (by simp [hl]), getD_take (by omega)]; exact h2
  · rw [addrL, getD_app (by simp [hl]), getD_take (by omega)]; exact h3
theorem short_full {l : List UInt8} (h : bicV l = true) : shortL (fullL l) = shortL l := by
  obtain ⟨hl | hl, _⟩ := bicV_iff.1 h
  · have e1 : fullL l = l ++ [88, 88, 88] := by rw [fullL, if_pos hl]
    have e2 : shortL l = l := by rw [shortL, if_neg (by omega)]
    rw [e1, e2, shortL, if_pos]
    · rw [List.take_append_of_le_length (by omega), List.take_of_length_le (by omega)]
    · refine ⟨by simp [hl], ?_⟩
      rw [List.drop_append_of_le_length (by omega), List.drop_of_length_le (by omega)]; rfl
  · rw [show fullL l = l by rw [fullL, if_neg (by omega)]]
theorem full_short (l : List UInt8) : fullL (shortL l) = fullL l := by
  rw [shortL]
  split
  · rename_i hs
    have e : fullL (l.take 8) = l.take 8 ++ [88, 88, 88] := by rw [fullL, if_pos (by simp [hs.1])]
    rw [e, ← hs.2, List.take_append_drop, fullL, if_neg (by omega)]
  · rfl
theorem addr_back {x : List UInt8} (h : x.length = 11) : (x.take 8 ++ (88 :: x.drop 8)).take 8 ++ (x.take 8 ++ (88 :: x.drop 8)).drop 9 = x := by
  have e : (x.take 8).length = 8 := by simp [h]
  rw [List.take_append_of_le_length (by omega), List.take_take, List.drop_append, e, List.drop_of_length_le (by omega)]
  simp
theorem of_addr {l : List UInt8} (h : bicV l = true) : ofL (addrL l) = shortL l := by
  rw [ofL, addrL, addr_back (full_len h), short_full h]
theorem full_iff {l r : List UInt8} (h : bicV l = true) (h' : bicV r = true) : fullL l = fullL r ↔ shortL l = shortL r :=
  ⟨fun e => by rw [← short_full h, ← short_full h', e], fun e => by rw [← full_short l, ← full_short r, e]⟩
theorem addr_iff {l r : List UInt8} (h : bicV l = true) (h' : bicV r = true) : addrL l = addrL r ↔ fullL l = fullL r :=
  ⟨fun e => by
    rw [addrL, addrL] at e
    rw [← addr_back (full_len h), ← addr_back (full_len h'), e], fun e => by rw [addrL, addrL, e]⟩
/-- A byte that is no letter and no digit makes it none. -/
theorem bic_fault {l : List UInt8} {m : Nat} (hm : m < l.length) {c : UInt8} (hc : ibOk c = false) : bicV (l.set m c) = false := by
  rw [← Bool.not_eq_true, bicV_iff]
  rintro ⟨_, h1, _⟩
  rw [List.all_eq_true] at h1
  have := h1 c (List.mem_set hm c)
  rw [hc] at this
  cases this
end Go.Proofs.Ytfelomakgdplfaa
