/- slices.rotateCmpFunc at forms. -/
import Derived.Test.YtedabholcldgbaaGreatDoorSoSwap
namespace Go.Proofs.YtedabholcldgbaaGreatDoor.So
open Go.RowKit Go.Deep Go.Sort Go.Shelf

/-- The stretches [a, m) and [m, b) change places. -/
def rotF (e : Nat → T) (a m b x : Nat) : T := if a ≤ x ∧ x < a + (b - m) then e (x + (m - a)) else if a + (b - m) ≤ x ∧ x < b then e (x - (b - m)) else e x
theorem rot_left (e : Nat → T) {m i j : Nat} (hi : i ≤ m) (h : j < i) (x : Nat) : rotF (swR e (m - i) m j) (m - (i - j)) m (m + j) x = rotF e (m - i) m (m + j) x := by
  unfold rotF
  by_cases c1 : m - i ≤ x ∧ x < m - i + (m + j - m)
  · rw [if_neg (by omega), if_neg (by omega), if_pos c1]
    unfold swR
    rw [if_pos (by omega)]
    congr 1; omega
  · rw [if_neg c1]
    by_cases c2 : m - i + (m + j - m) ≤ x ∧ x < m + j
    · rw [if_pos c2]
      by_cases c3 : m - (i - j) ≤ x ∧ x < m - (i - j) + (m + j - m)
      · rw [if_pos c3]
        unfold swR
        rw [if_neg (by omega), if_pos (by omega)]
        congr 1; omega
      · rw [if_neg c3, if_pos (by omega)]
        unfold swR
        rw [if_neg (by omega), if_neg (by omega)]
    · rw [if_neg c2, if_neg (by omega), if_neg (by omega)]
      unfold swR
      rw [if_neg (by omega), if_neg (by omega)]
theorem rot_right (e : Nat → T) {m i j : Nat} (hi : i ≤ m) (h : i < j) (x : Nat) : rotF (swR e (m - i) (m + j - i) i) (m - i) m (m + (j - i)) x = rotF e (m - i) m (m + j) x := by
  unfold rotF
  by_cases c1 : m - i ≤ x ∧ x < m - i + (m + j - m)
  · rw [if_pos c1]
    by_cases c3 : m - i ≤ x ∧ x < m - i + (m + (j - i) - m)
    · rw [if_pos c3]
      unfold swR
      by_cases c4 : m + j - i ≤ x + (m - (m - i)) ∧ x + (m - (m - i)) < m + j - i + i
      · exfalso; omega
      · rw [if_neg (by omega), if_neg c4]
    · rw [if_neg c3]
      by_cases c5 : m - i + (m + (j - i) - m) ≤ x ∧ x < m + (j - i)
      · rw [if_pos c5]
        unfold swR
        rw [if_pos (by omega)]
        congr 1; omega
      · exfalso; omega
  · rw [if_neg c1]
    by_cases c2 : m - i + (m + j - m) ≤ x ∧ x < m + j
    · rw [if_pos c2, if_neg (by omega), if_neg (by omega)]
      unfold swR
      rw [if_neg (by omega), if_pos (by omega)]
      congr 1; omega
    · rw [if_neg c2, if_neg (by omega), if_neg (by omega)]
      unfold swR
      rw [if_neg (by omega), if_neg (by omega)]
theorem rot_end (e : Nat → T) {m i : Nat} (hi : i ≤ m) (x : Nat) : swR e (m - i) m i x = rotF e (m - i) m (m + i) x := by
  unfold rotF swR
  by_cases c1 : m - i ≤ x ∧ x < m - i + i
  · rw [if_pos c1, if_pos (by omega)]
    congr 1; omega
  · rw [if_neg c1]
    by_cases c2 : m ≤ x ∧ x < m + i
    · rw [if_pos c2, if_neg (by omega), if_pos (by omega)]
      congr 1; omega
    · rw [if_neg c2, if_neg (by omega), if_neg (by omega)]
set_option linter.unusedSimpArgs false in
set_option maxHeartbeats 4000000 in
set_option maxRecDepth 1000000 in
theorem rotate_any (w0 W : World) (g n cap a m b : Nat) (e : Nat → T) (d : Array T) (hd : Is d n e) (h : Hd w0 W g d) (ham : a < m) (hmb : m < b) (hb : b ≤ n) (hn : n ≤ 4611686018427387904) (cf : Value) :
    Calls Tryz.prog 138 #[.slice (some ⟨g, 0, none⟩) n cap, .int .i64 a, .int .i64 m, .int .i64 b, cf] W fun en w' => en = .returned (.tuple #[]) ∧ ∃ d', Is d' n (rotF e a m b) ∧ Hd w0 w' g d' := by
  have HC := Lib.hid fun (W : World) (i j k : Nat) (e' : Nat → T) (dk : Array T) (h1 : Is dk n e') (h2 : Hd w0 W g dk) (h3 : i + k ≤ j) (h4 : j + k ≤ n) => swapRange_any w0 W g n cap i j k e' dk h1 h2 h3 h4 hn cf
  have HD := Lib.hid hd
  have H := Lib.hid h
  have g1 : ((m : Int) - (a : Int)) = ((m - a : Nat) : Int) := by omega
  have g2 : ((b : Int) - (m : Int)) = ((b - m : Nat) : Int) := by omega
  clear hd h
  go_enter Tryz.func138, Tryz.ntmps138
  go_wp2_with fail
  go_loopg [10, 11] (b - a) (fun q vi vj wr => ∃ (i j : Nat) (dk : Array T) (e' : Nat → T), vi = .int .i64 i ∧ vj = .int .i64 j ∧ 1 ≤ i ∧ 1 ≤ j ∧ i ≤ m - a ∧ j ≤ b - m ∧ q = i + j ∧ Is dk n e' ∧ (∀ x, rotF e' (m - i) m (m + j) x = rotF e a m b x) ∧ Hd w0 wr g dk)
  case atStart =>
    refine ⟨m - a, b - m, d, e, rfl, rfl, by omega, by omega, by omega, by omega, by omega, HD.out, fun x => ?_, H.out⟩
    rw [show m - (m - a) = a by omega, show m + (b - m) = b by omega]
  case round =>
    obtain ⟨i, j, dk, e', rfl, rfl, hi1, hj1, hi2, hj2, rfl, hI, hr, hH⟩ := hrel
    have HI := Lib.hid hI
    have HH := Lib.hid hH
    have HR := Lib.hid hr
    clear hI hH hr
    have q1 : ((m : Int) - (i : Int)) = ((m - i : Nat) : Int) := by omega
    by_cases hij : i = j
    · subst hij
      have gi : ((i : Int) != (i : Int)) = false := by simp
      have HX := Lib.hid (HC.out _ (m - i) m i e' dk HI.out HH.out (by omega) (by omega))
      go_wp2_with (go_at_call 165; (with_reducible refine HX.out.mono ?_); rintro en w2 ⟨rfl, d2, h1, h2⟩; have H1 := Lib.hid h1; have H2 := Lib.hid h2; clear h1 h2)
      go_end0
      exact ⟨rfl, d2, ⟨H1.out.1, fun x hx => by rw [H1.out.2 x hx, rot_end e' (by omega) x, HR.out x]⟩, H2.out⟩
    · have gi : ((i : Int) != (j : Int)) = true := by simp; omega
      by_cases hlt : j < i
      · have gg : (j : Int) < (i : Int) := by omega
        have q2 : ((i : Int) - (j : Int)) = ((i - j : Nat) : Int) := by omega
        have HX := Lib.hid (HC.out _ (m - i) m j e' dk HI.out HH.out (by omega) (by omega))
        go_wp2_with (go_at_call 165; (with_reducible refine HX.out.mono ?_); rintro en w2 ⟨rfl, d2, h1, h2⟩; have H1 := Lib.hid h1; have H2 := Lib.hid h2; clear h1 h2)
        go_roundg (i - j + j)
        case measure => omega
        case rel => exact ⟨i - j, j, d2, _, rfl, rfl, by omega, hj1, by omega, hj2, rfl, H1.out, fun x => by rw [rot_left e' (by omega) hlt x, HR.out x], H2.out⟩
      · have gg : ¬ (j : Int) < (i : Int) := by omega
        have q2 : ((j : Int) - (i : Int)) = ((j - i : Nat) : Int) := by omega
        obtain ⟨mj, hmj⟩ : ∃ mj, m + j = mj := ⟨_, rfl⟩
        obtain ⟨mi, hmi⟩ : ∃ mi, m + j - i = mi := ⟨_, rfl⟩
        have q3 : ((m : Int) + (j : Int)) = (mj : Int) := by omega
        have q4 : ((mj : Int) - (i : Int)) = (mi : Int) := by omega
        have q5 : mj ≤ n := by omega
        have HX := Lib.hid (HC.out _ (m - i) (m + j - i) i e' dk HI.out HH.out (by omega) (by omega))
        have HQ := Lib.hid hmi
        rw [hmi] at HX
        clear hmj hmi
        go_wp2_with (go_at_call 165; (with_reducible refine HX.out.mono ?_); rintro en w2 ⟨rfl, d2, h1, h2⟩; have H1 := Lib.hid h1; have H2 := Lib.hid h2; clear h1 h2)
        go_roundg (i + (j - i))
        case measure => omega
        case rel => exact ⟨i, j - i, d2, _, rfl, rfl, hi1, by omega, hi2, by omega, rfl, H1.out, fun x => by rw [← HQ.out, rot_right e' (by omega) (by omega) x, HR.out x], H2.out⟩
end Go.Proofs.YtedabholcldgbaaGreatDoor.So
