/- Two sorted stretches parted in the middle. Plain. -/
import Derived.Test.YtedabholcldgbaaGreatDoorSoM2
namespace Go.Proofs.YtedabholcldgbaaGreatDoor.So
open Go.RowKit Go.Deep Go.Sort Go.Shelf

theorem rot_none (e : Nat → T) {s m t : Nat} (h1 : s ≤ m) (h2 : m ≤ t) (h : ¬ (s < m ∧ m < t)) : rotF e s m t = e := by
  funext x
  unfold rotF
  by_cases c1 : s ≤ x ∧ x < s + (t - m)
  · rw [if_pos c1]
    congr 1; omega
  · rw [if_neg c1]
    by_cases c2 : s + (t - m) ≤ x ∧ x < t
    · rw [if_pos c2]
      congr 1; omega
    · rw [if_neg c2]
theorem rot_a (e : Nat → T) {s m t x : Nat} (h : x < s) : rotF e s m t x = e x := by
  unfold rotF
  rw [if_neg (by omega)]
  by_cases c : s + (t - m) ≤ x ∧ x < t
  · exfalso; omega
  · rw [if_neg c]
theorem rot_b (e : Nat → T) {s m t x : Nat} (h : s ≤ x) (h2 : x < s + (t - m)) : rotF e s m t x = e (x + (m - s)) := by
  unfold rotF
  rw [if_pos ⟨h, h2⟩]
theorem rot_c (e : Nat → T) {s m t x : Nat} (h : s + (t - m) ≤ x) (h2 : x < t) : rotF e s m t x = e (x - (t - m)) := by
  unfold rotF
  rw [if_neg (by omega), if_pos ⟨h, h2⟩]
theorem rot_d (e : Nat → T) {s m t x : Nat} (h1 : s ≤ m) (h2 : m ≤ t) (h : t ≤ x) : rotF e s m t x = e x := by
  unfold rotF
  rw [if_neg (by omega), if_neg (by omega)]
theorem rot_same (e : Nat → T) {a s m t b : Nat} (ha : a ≤ s) (h1 : s ≤ m) (h2 : m ≤ t) (hb : t ≤ b) : SameR e (rotF e s m t) a b := by
  refine ⟨fun x hx1 hx2 => ?_, fun y hy1 hy2 => ?_, fun x hx => ?_⟩
  · by_cases c1 : x < s
    · exact ⟨x, hx1, hx2, rot_a e c1⟩
    · by_cases c2 : x < s + (t - m)
      · exact ⟨x + (m - s), by omega, by omega, rot_b e (by omega) c2⟩
      · by_cases c3 : x < t
        · exact ⟨x - (t - m), by omega, by omega, rot_c e (by omega) c3⟩
        · exact ⟨x, hx1, hx2, rot_d e h1 h2 (by omega)⟩
  · by_cases c1 : y < s
    · exact ⟨y, hy1, hy2, rot_a e c1⟩
    · by_cases c2 : y < m
      · refine ⟨y + (t - m), by omega, by omega, ?_⟩
        rw [rot_c e (by omega) (by omega)]
        congr 1; omega
      · by_cases c3 : y < t
        · refine ⟨y - (m - s), by omega, by omega, ?_⟩
          rw [rot_b e (by omega) (by omega)]
          congr 1; omega
        · exact ⟨y, hy1, hy2, rot_d e h1 h2 (by omega)⟩
  · by_cases c1 : x < s
    · exact rot_a e c1
    · exact rot_d e h1 h2 (by omega)
/-- What the search has found. -/
structure Cut (e : Nat → T) (a m b mid lo hi s : Nat) : Prop where
  hmid : mid = (a + b) / 2
  am : a < m
  mb : m < b
  lohi : (m ≤ mid ∧ lo = a ∧ hi = m) ∨ (mid < m ∧ lo = mid + m - b ∧ hi = mid)
  sa : Sorted e a m
  sb : Sorted e m b
  s1 : lo ≤ s
  s2 : s ≤ hi
  low : ∀ x, lo ≤ x → x < s → 0 ≤ cT (e (mid + m - 1 - x)) (e x)
  high : ∀ x, s ≤ x → x < hi → cT (e (mid + m - 1 - x)) (e x) < 0
theorem Cut.nums {e : Nat → T} {a m b mid lo hi s : Nat} (h : Cut e a m b mid lo hi s) : a ≤ s ∧ s ≤ m ∧ s ≤ mid ∧ mid + m - s ≤ b ∧ m ≤ mid + m - s ∧ a < mid ∧ mid < b := by
  have := h.hmid
  have := h.am
  have := h.mb
  have := h.s1
  have := h.s2
  rcases h.lohi with ⟨_, _, _⟩ | ⟨_, _, _⟩ <;> omega
theorem Cut.parts {e : Nat → T} {a m b mid lo hi s : Nat} (h : Cut e a m b mid lo hi s) :
    Sorted (rotF e s m (mid + m - s)) a s ∧ Sorted (rotF e s m (mid + m - s)) s mid ∧ Sorted (rotF e s m (mid + m - s)) mid (mid + m - s) ∧ Sorted (rotF e s m (mid + m - s)) (mid + m - s) b := by
  obtain ⟨n1, n2, n3, n4, n5, n6, n7⟩ := h.nums
  have ham := h.am
  have hmb := h.mb
  refine ⟨?_, ?_, ?_, ?_⟩
  · exact (h.sa.sub (Nat.le_refl _) n2).congr fun x _ h2 => rot_a e h2
  · intro x y h1 h2 h3
    rw [rot_b e h1 (by omega), rot_b e (by omega) (by omega)]
    exact h.sb _ _ (by omega) (by omega) (by omega)
  · intro x y h1 h2 h3
    rw [rot_c e (by omega) (by omega), rot_c e (by omega) h3]
    exact h.sa _ _ (by omega) (by omega) (by omega)
  · exact (h.sb.sub n5 (Nat.le_refl _)).congr fun x h1 _ => rot_d e n2 n5 h1
theorem Sorted.le {e : Nat → T} {lo hi x y : Nat} (h : Sorted e lo hi) (h1 : lo ≤ x) (h2 : x ≤ y) (h3 : y < hi) : cT (e x) (e y) ≤ 0 := by
  by_cases c : x = y
  · subst c; rw [cT_self]; decide
  · exact h x y h1 (by omega) h3
/-- All ahead of the middle is no greater than all behind it. -/
theorem Cut.across {e : Nat → T} {a m b mid lo hi s : Nat} (h : Cut e a m b mid lo hi s) {x y : Nat} (hx1 : a ≤ x) (hx2 : x < mid) (hy1 : mid ≤ y) (hy2 : y < b) : cT (rotF e s m (mid + m - s) x) (rotF e s m (mid + m - s) y) ≤ 0 := by
  obtain ⟨n1, n2, n3, n4, n5, n6, n7⟩ := h.nums
  have ham := h.am
  have hmb := h.mb
  by_cases c1 : x < s
  · rw [rot_a e c1]
    by_cases c2 : y < mid + m - s
    · rw [rot_c e (by omega) c2]
      exact h.sa.le hx1 (by omega) (by omega)
    · rw [rot_d e n2 n5 (by omega)]
      have hlo : lo ≤ s - 1 := by
        rcases h.lohi with ⟨_, q2, _⟩ | ⟨_, q2, _⟩ <;> omega
      have h1 := h.low (s - 1) hlo (by omega)
      have h2 : cT (e (s - 1)) (e (mid + m - 1 - (s - 1))) ≤ 0 := by rw [cT_anti]; omega
      rw [show mid + m - 1 - (s - 1) = mid + m - s by omega] at h2
      exact cT_trans (h.sa.le hx1 (show x ≤ s - 1 by omega) (by omega)) (cT_trans h2 (h.sb.le (by omega) (by omega) hy2))
  · rw [rot_b e (by omega) (by omega)]
    by_cases c2 : y < mid + m - s
    · rw [rot_c e (by omega) c2]
      have hhi : s < hi := by
        have := h.s2
        rcases h.lohi with ⟨_, _, q3⟩ | ⟨_, _, q3⟩ <;> omega
      have h1 := h.high s (Nat.le_refl _) hhi
      have h3 : cT (e (x + (m - s))) (e (mid + m - 1 - s)) ≤ 0 := h.sb.le (by omega) (by omega) (by omega)
      have h4 : cT (e s) (e (y - (mid + m - s - m))) ≤ 0 := h.sa.le (by omega) (by omega) (by omega)
      exact cT_trans h3 (cT_trans (by omega) h4)
    · rw [rot_d e n2 n5 (by omega)]
      exact h.sb.le (by omega) (by omega) hy2
/-- Both halves sorted: all is. -/
theorem Cut.close {e : Nat → T} {a m b mid lo hi s : Nat} (h : Cut e a m b mid lo hi s) {e2 e3 : Nat → T} (hA : SameR (rotF e s m (mid + m - s)) e2 a mid) (sA : Sorted e2 a mid) (hB : SameR e2 e3 mid b) (sB : Sorted e3 mid b) : SameR e e3 a b ∧ Sorted e3 a b := by
  obtain ⟨n1, n2, n3, n4, n5, n6, n7⟩ := h.nums
  refine ⟨((rot_same e n1 n2 n5 n4).trans (hA.wide (Nat.le_refl _) (by omega))).trans (hB.wide (by omega) (Nat.le_refl _)), fun x y h1 h2 h3 => ?_⟩
  by_cases c1 : y < mid
  · rw [hB.far x (by omega), hB.far y (by omega)]
    exact sA x y h1 h2 c1
  · by_cases c2 : x < mid
    · rw [hB.far x (by omega)]
      obtain ⟨x', a1, a2, a3⟩ := hA.sub x h1 c2
      obtain ⟨y', b1, b2, b3⟩ := hB.sub y (by omega) h3
      rw [a3, b3, hA.far y' (by omega)]
      exact h.across a1 a2 b1 b2
    · exact sB x y (by omega) h2 h3
end Go.Proofs.YtedabholcldgbaaGreatDoor.So
