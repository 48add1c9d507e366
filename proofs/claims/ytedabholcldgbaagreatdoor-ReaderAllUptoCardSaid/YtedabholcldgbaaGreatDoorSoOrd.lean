/- Sorted stretches of a row of forms, and what is kept of them. Plain. -/
import Derived.Test.YtedabholcldgbaaGreatDoorSoRot
import Derived.Test.YtedabholcldgbaaGreatDoorOrder
namespace Go.Proofs.YtedabholcldgbaaGreatDoor.So
open Go.RowKit Go.Deep Go.Sort Go.Shelf

def cT (t u : T) : Int := cmpF t.form u.form
theorem cT_trans {a b c : T} (h : cT a b ≤ 0) (h' : cT b c ≤ 0) : cT a c ≤ 0 := by have := cmpF_le h h'; unfold cT; omega
theorem cT_anti (a b : T) : cT a b = -cT b a := cmpF_anti _ _
theorem cT_self (a : T) : cT a a = 0 := cmpF_self _
def Sorted (e : Nat → T) (lo hi : Nat) : Prop := ∀ x y, lo ≤ x → x < y → y < hi → cT (e x) (e y) ≤ 0
/-- The same elements between lo and hi, and nothing turned elsewhere. -/
structure SameR (e e' : Nat → T) (lo hi : Nat) : Prop where
  sub : ∀ x, lo ≤ x → x < hi → ∃ y, lo ≤ y ∧ y < hi ∧ e' x = e y
  sup : ∀ y, lo ≤ y → y < hi → ∃ x, lo ≤ x ∧ x < hi ∧ e' x = e y
  far : ∀ x, ¬ (lo ≤ x ∧ x < hi) → e' x = e x
theorem SameR.refl (e : Nat → T) (lo hi : Nat) : SameR e e lo hi := ⟨fun x h1 h2 => ⟨x, h1, h2, rfl⟩, fun x h1 h2 => ⟨x, h1, h2, rfl⟩, fun _ _ => rfl⟩
theorem SameR.trans {e e' e'' : Nat → T} {lo hi : Nat} (h : SameR e e' lo hi) (k : SameR e' e'' lo hi) : SameR e e'' lo hi := by
  refine ⟨fun x h1 h2 => ?_, fun y h1 h2 => ?_, fun x hx => (k.far x hx).trans (h.far x hx)⟩
  · obtain ⟨y, a1, a2, a3⟩ := k.sub x h1 h2
    obtain ⟨z, b1, b2, b3⟩ := h.sub y a1 a2
    exact ⟨z, b1, b2, a3.trans b3⟩
  · obtain ⟨x, a1, a2, a3⟩ := h.sup y h1 h2
    obtain ⟨z, b1, b2, b3⟩ := k.sup x a1 a2
    exact ⟨z, b1, b2, b3.trans a3⟩
theorem SameR.wide {e e' : Nat → T} {lo hi lo' hi' : Nat} (h : SameR e e' lo hi) (h1 : lo' ≤ lo) (h2 : hi ≤ hi') : SameR e e' lo' hi' := by
  refine ⟨fun x a b => ?_, fun y a b => ?_, fun x hx => h.far x fun hh => hx ⟨by omega, by omega⟩⟩
  · by_cases hh : lo ≤ x ∧ x < hi
    · obtain ⟨y, b1, b2, b3⟩ := h.sub x hh.1 hh.2
      exact ⟨y, by omega, by omega, b3⟩
    · exact ⟨x, a, b, h.far x hh⟩
  · by_cases hh : lo ≤ y ∧ y < hi
    · obtain ⟨x, b1, b2, b3⟩ := h.sup y hh.1 hh.2
      exact ⟨x, by omega, by omega, b3⟩
    · exact ⟨y, a, b, h.far y hh⟩
def AllF (w0 : World) (g n : Nat) (e : Nat → T) : Prop := ∀ x, x < n → Far w0 g (e x)
theorem AllF.same {w0 : World} {g n : Nat} {e e' : Nat → T} {lo hi : Nat} (h : AllF w0 g n e) (hs : SameR e e' lo hi) (hh : hi ≤ n) : AllF w0 g n e' := fun x hx => by
  by_cases c : lo ≤ x ∧ x < hi
  · obtain ⟨y, _, b2, b3⟩ := hs.sub x c.1 c.2
    rw [b3]; exact h y (by omega)
  · rw [hs.far x c]; exact h x hx
/-- Two exchanged. -/
def sw (e : Nat → T) (i j x : Nat) : T := if x = j then e i else if x = i then e j else e x
theorem sw_same (e : Nat → T) {i j lo hi : Nat} (hi1 : lo ≤ i) (hi2 : i < hi) (hj1 : lo ≤ j) (hj2 : j < hi) : SameR e (sw e i j) lo hi := by
  refine ⟨fun x a b => ?_, fun y a b => ?_, fun x hx => ?_⟩
  · unfold sw
    by_cases c1 : x = j
    · exact ⟨i, hi1, hi2, by rw [if_pos c1]⟩
    · by_cases c2 : x = i
      · exact ⟨j, hj1, hj2, by rw [if_neg c1, if_pos c2]⟩
      · exact ⟨x, a, b, by rw [if_neg c1, if_neg c2]⟩
  · unfold sw
    by_cases c1 : y = j
    · by_cases c2 : i = j
      · exact ⟨j, hj1, hj2, by rw [if_pos rfl, c1, c2]⟩
      · exact ⟨i, hi1, hi2, by rw [if_neg c2, if_pos rfl, c1]⟩
    · by_cases c2 : y = i
      · exact ⟨j, hj1, hj2, by rw [if_pos rfl, c2]⟩
      · exact ⟨y, a, b, by rw [if_neg c1, if_neg c2]⟩
  · unfold sw
    rw [if_neg (by rintro rfl; exact hx ⟨hj1, hj2⟩), if_neg (by rintro rfl; exact hx ⟨hi1, hi2⟩)]
theorem sw_is {d : Array T} {n i j : Nat} {e : Nat → T} (h : Is d n e) (hi : i < n) (hj : j < n) : Is (swp d i j) n (sw e i j) := by
  obtain ⟨h1, h2⟩ := h
  refine ⟨by rw [size_swp]; exact h1, fun x hx => ?_⟩
  rw [swp_get d (by omega) (by omega), h2 x hx, h2 i hi, h2 j hj]
  rfl
/-- Within insertion: all pairs up to i are in order but those whose right one is j. -/
def Ins (e : Nat → T) (lo i j : Nat) : Prop := ∀ x y, lo ≤ x → x < y → y ≤ i → y ≠ j → cT (e x) (e y) ≤ 0
theorem ins_start {e : Nat → T} {lo i : Nat} (h : Sorted e lo i) : Ins e lo i i := fun x y h1 h2 h3 h4 => h x y h1 h2 (by omega)
theorem ins_step {e : Nat → T} {lo i j : Nat} (h : Ins e lo i (j + 1)) (hj : lo ≤ j) (hji : j + 1 ≤ i) (hc : cT (e (j + 1)) (e j) < 0) : Ins (sw e (j + 1) j) lo i j := by
  intro x y h1 h2 h3 h4
  unfold sw
  by_cases c1 : y = j + 1
  · subst c1
    rw [if_neg (show ¬ j + 1 = j by omega), if_pos rfl]
    by_cases c2 : x = j
    · rw [if_pos c2]; omega
    · rw [if_neg c2, if_neg (by omega)]
      exact h x j h1 (by omega) (by omega) (by omega)
  · rw [if_neg h4, if_neg c1]
    by_cases c2 : x = j
    · rw [if_pos c2]
      exact h (j + 1) y (by omega) (by omega) h3 c1
    · rw [if_neg c2]
      by_cases c3 : x = j + 1
      · rw [if_pos c3]
        exact h j y hj (by omega) h3 c1
      · rw [if_neg c3]
        exact h x y h1 h2 h3 c1
theorem ins_end {e : Nat → T} {lo i j : Nat} (h : Ins e lo i j) (hj : j ≤ i) (hc : j ≤ lo ∨ ∃ p, j = p + 1 ∧ lo ≤ p ∧ ¬ cT (e (p + 1)) (e p) < 0) : Sorted e lo (i + 1) := by
  intro x y h1 h2 h3
  by_cases c : y = j
  · subst c
    rcases hc with hc | ⟨p, rfl, hp, hc⟩
    · omega
    · have h4 : cT (e p) (e (p + 1)) ≤ 0 := by rw [cT_anti]; omega
      by_cases c2 : x = p
      · subst c2; exact h4
      · exact cT_trans (h x p h1 (by omega) (by omega) (by omega)) h4
  · exact h x y h1 h2 (by omega) c
theorem sorted_few {e : Nat → T} {lo hi : Nat} (h : hi ≤ lo + 1) : Sorted e lo hi := fun x y h1 h2 h3 => by omega
theorem Sorted.sub {e : Nat → T} {lo hi lo' hi' : Nat} (h : Sorted e lo hi) (h1 : lo ≤ lo') (h2 : hi' ≤ hi) : Sorted e lo' hi' := fun x y a b c => h x y (by omega) b (by omega)
theorem Sorted.congr {e e' : Nat → T} {lo hi : Nat} (h : Sorted e lo hi) (he : ∀ x, lo ≤ x → x < hi → e' x = e x) : Sorted e' lo hi := fun x y a b c => by
  rw [he x a (by omega), he y (by omega) c]; exact h x y a b c
end Go.Proofs.YtedabholcldgbaaGreatDoor.So
