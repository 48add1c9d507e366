/- slices.swapRangeCmpFunc and rotateCmpFunc at forms. -/
import Derived.Test.YtedabholcldgbaaGreatDoorSo0
namespace Go.Proofs.YtedabholcldgbaaGreatDoor.So
open Go.RowKit Go.Deep Go.Sort Go.Shelf

theorem swR_zero (e : Nat → T) (a b x : Nat) : swR e a b 0 x = e x := by
  unfold swR
  rw [if_neg (by omega), if_neg (by omega)]
theorem swR_next {d : Array T} {n a b i : Nat} {e : Nat → T} (h : Is d n (swR e a b i)) (hab : a + (i + 1) ≤ b) (hb : b + (i + 1) ≤ n) : Is (swp d (a + i) (b + i)) n (swR e a b (i + 1)) := by
  obtain ⟨h1, h2⟩ := h
  refine ⟨by rw [size_swp]; exact h1, fun x hx => ?_⟩
  rw [swp_get d (by omega) (by omega)]
  have ea := h2 (a + i) (by omega)
  have eb := h2 (b + i) (by omega)
  have ex := h2 x hx
  unfold swR at *
  by_cases c1 : x = b + i
  · subst c1
    rw [if_pos rfl, ea, if_neg (by omega), if_neg (by omega), if_neg (by omega), if_pos (by omega)]
    congr 1; omega
  · rw [if_neg c1]
    by_cases c2 : x = a + i
    · subst c2
      rw [if_pos rfl, eb, if_neg (by omega), if_neg (by omega), if_pos (by omega)]
      congr 1; omega
    · rw [if_neg c2, ex]
      by_cases c3 : a ≤ x ∧ x < a + i
      · have c3' : a ≤ x ∧ x < a + (i + 1) := by omega
        rw [if_pos c3, if_pos c3']
      · have c3' : ¬ (a ≤ x ∧ x < a + (i + 1)) := by omega
        rw [if_neg c3, if_neg c3']
        by_cases c4 : b ≤ x ∧ x < b + i
        · have c4' : b ≤ x ∧ x < b + (i + 1) := by omega
          rw [if_pos c4, if_pos c4']
        · have c4' : ¬ (b ≤ x ∧ x < b + (i + 1)) := by omega
          rw [if_neg c4, if_neg c4']
set_option linter.unusedSimpArgs false in
set_option maxHeartbeats 4000000 in
set_option maxRecDepth 1000000 in
theorem swapRange_any (w0 W : World) (g n cap a b k : Nat) (e : Nat → T) (d : Array T) (hd : Is d n e) (h : Hd w0 W g d) (hab : a + k ≤ b) (hb : b + k ≤ n) (hn : n ≤ 4611686018427387904) (cf : Value) :
    Calls Tryz.prog 165 #[.slice (some ⟨g, 0, none⟩) n cap, .int .i64 a, .int .i64 b, .int .i64 k, cf] W fun en w' => en = .returned (.tuple #[]) ∧ ∃ d', Is d' n (swR e a b k) ∧ Hd w0 w' g d' := by
  have hd0 : Is d n (swR e a b 0) := ⟨hd.1, fun x hx => by rw [swR_zero]; exact hd.2 x hx⟩
  have HD := Lib.hid hd0
  have H := Lib.hid h
  clear hd hd0 h
  have mixed : Tryz.prog.follows .mixedOrders = true := by kernel_rfl
  have aE := Tryz.isAgg29
  obtain ⟨k4, hk4⟩ : ∃ k4 : Nat, k4 = 4 := ⟨_, rfl⟩
  have zE := Tryz.sizeOf29
  rw [← hk4] at zE
  have HK4 := Lib.hid hk4
  clear hk4
  have aI := Tryz.isAgg3
  have zI := Tryz.sizeOf3
  have aS := Tryz.isAgg22
  have zS := Tryz.sizeOf22
  go_enter Tryz.func165, Tryz.ntmps165
  go_wp2_with fail
  go_loopg [10] k (fun m vi wr => ∃ (i : Nat) (dk : Array T), vi = .int .i64 i ∧ i ≤ k ∧ m = k - i ∧ Is dk n (swR e a b i) ∧ Hd w0 wr g dk)
  case atStart => exact ⟨0, d, rfl, by omega, rfl, HD.out, H.out⟩
  case round =>
    obtain ⟨i, dk, rfl, hik, rfl, hI, hH⟩ := hrel
    by_cases hlt : i < k
    · have gi : (i : Int) < (k : Int) := by omega
      have ga : ((a : Int) + (i : Int)) = ((a + i : Nat) : Int) := by omega
      have gb : ((b : Int) + (i : Int)) = ((b + i : Nat) : Int) := by omega
      have ga1 : ((a + i : Nat) : Int) < (n : Int) := by omega
      have gb1 : ((b + i : Nat) : Int) < (n : Int) := by omega
      have ga0 : (0 : Int) ≤ ((a + i : Nat) : Int) := by omega
      have gb0 : (0 : Int) ≤ ((b + i : Nat) : Int) := by omega
      obtain ⟨lj2, lp2, s1, s2⟩ := hH.drew.moves (i := a + i) (j := b + i) (by rw [hI.1]; omega) (by rw [hI.1]; omega)
      have HSW := Lib.hid (hH.drew.swap (i := a + i) (j := b + i) (by rw [hI.1]; omega) (by rw [hI.1]; omega))
      have HN := Lib.hid (swR_next hI (by omega) (by omega))
      have hsJ : (encT dk[b + i]!).length = 4 := rfl
      have hsP : (encT dk[a + i]!).length = 4 := rfl
      rw [← HK4.out] at lj2 lp2 s1 s2 HSW hsJ hsP
      obtain ⟨cJ, hcJ⟩ : ∃ c, c = encT dk[b + i]! := ⟨_, rfl⟩
      obtain ⟨cP, hcP⟩ : ∃ c, c = encT dk[a + i]! := ⟨_, rfl⟩
      rw [← hcP] at s2 lp2 hsP HSW
      rw [← hcJ] at lj2 hsJ s1 s2 HSW
      clear hcJ hcP hI hH
      obtain ⟨pa, hpa⟩ : ∃ pa, a + i = pa := ⟨_, rfl⟩
      obtain ⟨pb, hpb⟩ : ∃ pb, b + i = pb := ⟨_, rfl⟩
      simp only [hpa, hpb] at ga gb ga1 gb1 ga0 gb0 lj2 lp2 s1 s2 HSW HN
      clear hpa hpb
      go_wp2_with fail
      go_big_region_o
      all_goals go_wp2
      go_roundg (k - (i + 1))
      case measure => omega
      case rel => exact ⟨i + 1, _, by go_num, by omega, rfl, HN.out, HSW.out⟩
    · have gi : ¬ (i : Int) < (k : Int) := by omega
      obtain rfl : i = k := by omega
      have HI := Lib.hid hI
      have HH := Lib.hid hH
      clear hI hH
      go_wp2_with fail
      go_end0
      exact ⟨rfl, _, HI.out, HH.out⟩
end Go.Proofs.YtedabholcldgbaaGreatDoor.So
