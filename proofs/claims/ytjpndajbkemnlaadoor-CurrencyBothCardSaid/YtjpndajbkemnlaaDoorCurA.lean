/-
  What the table says of a text; Digits.
-/
import Derived.Test.YtjpndajbkemnlaaDoorTable
namespace Go.Proofs.YtjpndajbkemnlaaDoor
open Go.RowKit Go.Shelf Go.Maps

/-- Is the text one of the words? -/
def memW (l : List UInt8) (xs : List Wrd) : Bool := xs.any (fun x => x.1 == l)
theorem memW_cons (l : List UInt8) (x : Wrd) (xs : List Wrd) : memW l (x :: xs) = (x.1 == l || memW l xs) := rfl

theorem isMap_putAll {H : Type} (v : Int) (xs : List Wrd) : ∀ {D : DataW H}, IsMap D → IsMap (putAll D xs v) := by
  induction xs with
  | nil => exact fun h => h
  | cons x xs ih => exact fun h => ih (h.put _ _)

theorem atKey_putAll {H : Type} (l : List UInt8) (z : DataW H) (v : Int) (xs : List Wrd) : ∀ {D : DataW H}, IsMap D →
    (putAll D xs v).atKey (.string l) z = if memW l xs then .lit (.int .i64 v) else D.atKey (.string l) z := by
  induction xs with
  | nil => exact fun _ => rfl
  | cons x xs ih =>
    intro D hD
    have h1 : (putAll D (x :: xs) v) = putAll (D.put (.string x.1) (.lit (.int .i64 v))) xs v := rfl
    rw [h1, ih (hD.put _ _), memW_cons]
    by_cases hm : memW l xs = true
    · simp [hm]
    · rw [if_neg hm]
      by_cases hx : x.1 = l
      · subst hx
        rw [atKey_put_same hD (by trivial)]
        simp
      · rw [atKey_put_other (fun e => hx (by cases e; rfl))]
        simp [hm, hx]
theorem has_putAll {H : Type} (l : List UInt8) (v : Int) (xs : List Wrd) : ∀ {D : DataW H}, IsMap D →
    has (putAll D xs v) (.string l) = (memW l xs || has D (.string l)) := by
  induction xs with
  | nil => exact fun _ => rfl
  | cons x xs ih =>
    intro D hD
    have h1 : (putAll D (x :: xs) v) = putAll (D.put (.string x.1) (.lit (.int .i64 v))) xs v := rfl
    rw [h1, ih (hD.put _ _), memW_cons]
    by_cases hx : x.1 = l
    · subst hx
      rw [has_put_same hD (by trivial)]
      simp
    · rw [has_put_other (fun e => hx (by cases e; rfl)), show (x.1 == l) = false by simpa using hx]
      rfl

/-- How many digits, and whether it is a currency. -/
def digV (l : List UInt8) : Int × Bool :=
  if memW l lstFour then (4, true) else if memW l lstThree then (3, true) else if memW l lstTwo then (2, true) else if memW l lstNone then (0, true) else (0, false)

theorem tab_at (H : Type) (l : List UInt8) : (tabD (H := H)).atKey (.string l) (.lit (.int .i64 0)) = .lit (.int .i64 (digV l).1) := by
  have i0 : IsMap (.map [] : DataW H) := isMap_empty
  have i1 := isMap_putAll 0 lstNone i0
  have i2 := isMap_putAll 2 lstTwo i1
  have i3 := isMap_putAll 3 lstThree i2
  rw [tabD, atKey_putAll _ _ _ _ i3, atKey_putAll _ _ _ _ i2, atKey_putAll _ _ _ _ i1, atKey_putAll _ _ _ _ i0, digV]
  split
  · rfl
  · split
    · rfl
    · split
      · rfl
      · split <;> rfl
theorem tab_has (H : Type) (l : List UInt8) : has (tabD (H := H)) (.string l) = (digV l).2 := by
  have i0 : IsMap (.map [] : DataW H) := isMap_empty
  have i1 := isMap_putAll 0 lstNone i0
  have i2 := isMap_putAll 2 lstTwo i1
  have i3 := isMap_putAll 3 lstThree i2
  rw [tabD, has_putAll _ _ _ i3, has_putAll _ _ _ i2, has_putAll _ _ _ i1, has_putAll _ _ _ i0, digV, show has (.map [] : DataW H) (.string l) = false from rfl]
  cases memW l lstFour
  · cases memW l lstThree
    · cases memW l lstTwo
      · cases memW l lstNone <;> rfl
      · rfl
    · rfl
  · rfl
theorem digV_le (l : List UInt8) : 0 ≤ (digV l).1 ∧ (digV l).1 ≤ 4 := by
  rw [digV]
  split
  · decide
  · split
    · decide
    · split
      · decide
      · split <;> decide

set_option maxRecDepth 100000 in
set_option maxHeartbeats 1000000 in
theorem digits_of (s : ByteArray) (w : World) (hs : s.size ≤ 9223372036854775807) :
    Calls Tryd.prog 10 #[.string s] w fun e w' => e = .returned (.tuple #[.int .i64 (digV s.data.toList).1, .bool (digV s.data.toList).2]) ∧ Below w.heap.size w w' := by
  have hkey := hid (WideMaps.keyOf_string_mk (P := Tryd.prog) Tryd.underlying9 hs)
  go_enter Tryd.func10, Tryd.ntmps10
  go_wp2_with (first
    | (go_at_call 20; with_reducible refine (table_any Unit _).mono ?_; rintro e w' ⟨rfl, hown, hb⟩)
    | (at_lookup; refine wpList_lookup_own_ok_int _ rfl _ _ 45 rfl 9 3 .i64 lawS Tryd.underlying45 Tryd.underlying3 (zeroI _) w.heap.size 61 _ rfl hown _ _ rfl hkey.out ?_; intro c hat0 hwc; have hat := hid hat0; clear hat0)
    | go_in)
  go_returns
  have hat := hat.out
  rw [tab_at] at hat
  rw [tab_has]
  obtain rfl : (digV s.data.toList).1 = c := by injection hat with h; injection h
  exact ⟨rfl, hb⟩
end Go.Proofs.YtjpndajbkemnlaaDoor
