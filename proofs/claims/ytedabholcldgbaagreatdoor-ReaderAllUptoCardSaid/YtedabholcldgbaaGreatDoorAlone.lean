/- Valid, Size, Depth and Head. -/
import Derived.Test.YtedabholcldgbaaGreatDoorValid
namespace Go.Proofs.YtedabholcldgbaaGreatDoor
open Go.RowKit Go.Deep

/-- A form is valid but for its Kids and their number. -/
def aloneF (f : Fm) : Bool :=
  if f.kd = 0 then (f.tx.size == 0) && f.ks.isEmpty && rangeB f.nn
  else if f.kd = 1 then (f.nn == 0) && f.ks.isEmpty && wordB f.tx
  else if f.kd = 2 then (f.nn == 0) && f.ks.isEmpty && textB f.tx
  else if f.kd = 3 then (f.nn == 0) && (f.tx.size == 0)
  else false
theorem aloneT (t : T) : aloneF t.form = if t.kd = 0 then (t.tx.size == 0) && t.ks.isEmpty && rangeB t.nn
    else if t.kd = 1 then (t.nn == 0) && t.ks.isEmpty && wordB t.tx
    else if t.kd = 2 then (t.nn == 0) && t.ks.isEmpty && textB t.tx
    else if t.kd = 3 then (t.nn == 0) && (t.tx.size == 0)
    else false := by
  unfold aloneF; simp only [T.form_kd, T.form_nn, T.form_tx, T.form_ks]
  have : (t.ks.map T.form).isEmpty = t.ks.isEmpty := by cases t.ks <;> rfl
  rw [this]

set_option maxHeartbeats 1000000 in
theorem alone_any (t : T) (o : Ok t) (w : World) :
    Calls Tryz.prog 59 #[t.val] w fun e w' => e = .returned (.bool (aloneF t.form)) ∧ Below w.heap.size w w' := by
  have HR := Lib.hid (range_any t.nn)
  have HW := Lib.hid (word_any t.tx o.tx)
  have HX := Lib.hid (text_any t.tx o.tx)
  rw [aloneT]
  by_cases k0 : t.kd = 0
  · have b0 : (t.kd == 0) = true := by simpa using k0
    rw [if_pos k0]
    clear k0
    by_cases h1 : t.tx.size = 0
    · have g1 := toList_nil h1
      have e1 : (t.tx.size == 0) = true := by simpa using h1
      rw [e1]
      by_cases h2 : t.ks.length = 0
      · have e2 : t.ks.isEmpty = true := by simpa using List.length_eq_zero_iff.1 h2
        have g2 : ((t.ks.length : Int) == 0) = true := by simpa using List.length_eq_zero_iff.1 h2
        rw [e2]
        clear h1 h2 e1 e2
        go_enter Tryz.func59, Tryz.ntmps59
        go_wp2_with (first
          | (go_at_call 91; refine (HR.out _).mono ?_; rintro e w2 ⟨rfl, rfl⟩)
          | (go_at_call 92; refine (HW.out _).mono ?_; rintro e w2 ⟨rfl, rfl⟩)
          | (go_at_call 93; refine (HX.out _).mono ?_; rintro e w2 ⟨rfl, rfl⟩))
        go_ret
        exact ⟨rfl, bel1 _ _⟩
      · have e2 : t.ks.isEmpty = false := by cases h : t.ks with
                                              | nil => exact absurd (by rw [h]; rfl) h2
                                              | cons _ _ => rfl
        have g2 : ((t.ks.length : Int) == 0) = false := by simpa using h2
        rw [e2]
        clear h1 h2 e1 e2
        go_enter Tryz.func59, Tryz.ntmps59
        go_wp2_with (first
          | (go_at_call 91; refine (HR.out _).mono ?_; rintro e w2 ⟨rfl, rfl⟩)
          | (go_at_call 92; refine (HW.out _).mono ?_; rintro e w2 ⟨rfl, rfl⟩)
          | (go_at_call 93; refine (HX.out _).mono ?_; rintro e w2 ⟨rfl, rfl⟩))
        go_ret
        exact ⟨rfl, bel1 _ _⟩
    · have g1 := toList_ne h1
      have g1' : (t.tx.toList == []) = false := by simpa using g1
      have g1'' : t.tx.toList.isEmpty = false := by simpa using g1
      have e1 : (t.tx.size == 0) = false := by simpa using h1
      rw [e1]
      clear h1 e1
      go_enter Tryz.func59, Tryz.ntmps59
      go_wp2_with (first
        | (go_at_call 91; refine (HR.out _).mono ?_; rintro e w2 ⟨rfl, rfl⟩)
        | (go_at_call 92; refine (HW.out _).mono ?_; rintro e w2 ⟨rfl, rfl⟩)
        | (go_at_call 93; refine (HX.out _).mono ?_; rintro e w2 ⟨rfl, rfl⟩))
      go_ret
      exact ⟨rfl, bel1 _ _⟩
  · have b0 : (t.kd == 0) = false := by simpa using k0
    rw [if_neg k0]
    by_cases k1 : t.kd = 1
    · have b1 : (t.kd == 1) = true := by simpa using k1
      rw [if_pos k1]
      clear k0 k1
      by_cases h1 : t.nn = 0
      · have g1 : (t.nn == 0) = true := by simpa using h1
        rw [g1]
        by_cases h2 : t.ks.length = 0
        · have e2 : t.ks.isEmpty = true := by simpa using List.length_eq_zero_iff.1 h2
          have g2 : ((t.ks.length : Int) == 0) = true := by simpa using List.length_eq_zero_iff.1 h2
          rw [e2]
          clear h1 h2 e2
          go_enter Tryz.func59, Tryz.ntmps59
          go_wp2_with (first
            | (go_at_call 91; refine (HR.out _).mono ?_; rintro e w2 ⟨rfl, rfl⟩)
            | (go_at_call 92; refine (HW.out _).mono ?_; rintro e w2 ⟨rfl, rfl⟩)
            | (go_at_call 93; refine (HX.out _).mono ?_; rintro e w2 ⟨rfl, rfl⟩))
          go_ret
          exact ⟨rfl, bel1 _ _⟩
        · have e2 : t.ks.isEmpty = false := by cases h : t.ks with
                                                | nil => exact absurd (by rw [h]; rfl) h2
                                                | cons _ _ => rfl
          have g2 : ((t.ks.length : Int) == 0) = false := by simpa using h2
          rw [e2]
          clear h1 h2 e2
          go_enter Tryz.func59, Tryz.ntmps59
          go_wp2_with (first
            | (go_at_call 91; refine (HR.out _).mono ?_; rintro e w2 ⟨rfl, rfl⟩)
            | (go_at_call 92; refine (HW.out _).mono ?_; rintro e w2 ⟨rfl, rfl⟩)
            | (go_at_call 93; refine (HX.out _).mono ?_; rintro e w2 ⟨rfl, rfl⟩))
          go_ret
          exact ⟨rfl, bel1 _ _⟩
      · have g1 : (t.nn == 0) = false := by simpa using h1
        rw [g1]
        clear h1
        go_enter Tryz.func59, Tryz.ntmps59
        go_wp2_with (first
          | (go_at_call 91; refine (HR.out _).mono ?_; rintro e w2 ⟨rfl, rfl⟩)
          | (go_at_call 92; refine (HW.out _).mono ?_; rintro e w2 ⟨rfl, rfl⟩)
          | (go_at_call 93; refine (HX.out _).mono ?_; rintro e w2 ⟨rfl, rfl⟩))
        go_ret
        exact ⟨rfl, bel1 _ _⟩
    · have b1 : (t.kd == 1) = false := by simpa using k1
      rw [if_neg k1]
      by_cases k2 : t.kd = 2
      · have b2 : (t.kd == 2) = true := by simpa using k2
        rw [if_pos k2]
        clear k0 k1 k2
        by_cases h1 : t.nn = 0
        · have g1 : (t.nn == 0) = true := by simpa using h1
          rw [g1]
          by_cases h2 : t.ks.length = 0
          · have e2 : t.ks.isEmpty = true := by simpa using List.length_eq_zero_iff.1 h2
            have g2 : ((t.ks.length : Int) == 0) = true := by simpa using List.length_eq_zero_iff.1 h2
            rw [e2]
            clear h1 h2 e2
            go_enter Tryz.func59, Tryz.ntmps59
            go_wp2_with (first
              | (go_at_call 91; refine (HR.out _).mono ?_; rintro e w2 ⟨rfl, rfl⟩)
              | (go_at_call 92; refine (HW.out _).mono ?_; rintro e w2 ⟨rfl, rfl⟩)
              | (go_at_call 93; refine (HX.out _).mono ?_; rintro e w2 ⟨rfl, rfl⟩))
            go_ret
            exact ⟨rfl, bel1 _ _⟩
          · have e2 : t.ks.isEmpty = false := by cases h : t.ks with
                                                  | nil => exact absurd (by rw [h]; rfl) h2
                                                  | cons _ _ => rfl
            have g2 : ((t.ks.length : Int) == 0) = false := by simpa using h2
            rw [e2]
            clear h1 h2 e2
            go_enter Tryz.func59, Tryz.ntmps59
            go_wp2_with (first
              | (go_at_call 91; refine (HR.out _).mono ?_; rintro e w2 ⟨rfl, rfl⟩)
              | (go_at_call 92; refine (HW.out _).mono ?_; rintro e w2 ⟨rfl, rfl⟩)
              | (go_at_call 93; refine (HX.out _).mono ?_; rintro e w2 ⟨rfl, rfl⟩))
            go_ret
            exact ⟨rfl, bel1 _ _⟩
        · have g1 : (t.nn == 0) = false := by simpa using h1
          rw [g1]
          clear h1
          go_enter Tryz.func59, Tryz.ntmps59
          go_wp2_with (first
            | (go_at_call 91; refine (HR.out _).mono ?_; rintro e w2 ⟨rfl, rfl⟩)
            | (go_at_call 92; refine (HW.out _).mono ?_; rintro e w2 ⟨rfl, rfl⟩)
            | (go_at_call 93; refine (HX.out _).mono ?_; rintro e w2 ⟨rfl, rfl⟩))
          go_ret
          exact ⟨rfl, bel1 _ _⟩
      · have b2 : (t.kd == 2) = false := by simpa using k2
        rw [if_neg k2]
        by_cases k3 : t.kd = 3
        · have b3 : (t.kd == 3) = true := by simpa using k3
          rw [if_pos k3]
          clear k0 k1 k2 k3
          by_cases h1 : t.nn = 0
          · have g1 : (t.nn == 0) = true := by simpa using h1
            rw [g1]
            by_cases h2 : t.tx.size = 0
            · have g2 := toList_nil h2
              have e2 : (t.tx.size == 0) = true := by simpa using h2
              rw [e2]
              clear h1 h2 e2
              go_enter Tryz.func59, Tryz.ntmps59
              go_wp2_with (first
                | (go_at_call 91; refine (HR.out _).mono ?_; rintro e w2 ⟨rfl, rfl⟩)
                | (go_at_call 92; refine (HW.out _).mono ?_; rintro e w2 ⟨rfl, rfl⟩)
                | (go_at_call 93; refine (HX.out _).mono ?_; rintro e w2 ⟨rfl, rfl⟩))
              go_ret
              exact ⟨rfl, bel1 _ _⟩
            · have g2 := toList_ne h2
              have g2' : (t.tx.toList == []) = false := by simpa using g2
              have g2'' : t.tx.toList.isEmpty = false := by simpa using g2
              have e2 : (t.tx.size == 0) = false := by simpa using h2
              rw [e2]
              clear h1 h2 e2
              go_enter Tryz.func59, Tryz.ntmps59
              go_wp2_with (first
                | (go_at_call 91; refine (HR.out _).mono ?_; rintro e w2 ⟨rfl, rfl⟩)
                | (go_at_call 92; refine (HW.out _).mono ?_; rintro e w2 ⟨rfl, rfl⟩)
                | (go_at_call 93; refine (HX.out _).mono ?_; rintro e w2 ⟨rfl, rfl⟩))
              go_ret
              exact ⟨rfl, bel1 _ _⟩
          · have g1 : (t.nn == 0) = false := by simpa using h1
            rw [g1]
            clear h1
            go_enter Tryz.func59, Tryz.ntmps59
            go_wp2_with (first
              | (go_at_call 91; refine (HR.out _).mono ?_; rintro e w2 ⟨rfl, rfl⟩)
              | (go_at_call 92; refine (HW.out _).mono ?_; rintro e w2 ⟨rfl, rfl⟩)
              | (go_at_call 93; refine (HX.out _).mono ?_; rintro e w2 ⟨rfl, rfl⟩))
            go_ret
            exact ⟨rfl, bel1 _ _⟩
        · have b3 : (t.kd == 3) = false := by simpa using k3
          rw [if_neg k3]
          clear k0 k1 k2 k3
          go_enter Tryz.func59, Tryz.ntmps59
          go_wp2_with (first
            | (go_at_call 91; refine (HR.out _).mono ?_; rintro e w2 ⟨rfl, rfl⟩)
            | (go_at_call 92; refine (HW.out _).mono ?_; rintro e w2 ⟨rfl, rfl⟩)
            | (go_at_call 93; refine (HX.out _).mono ?_; rintro e w2 ⟨rfl, rfl⟩))
          go_ret
          exact ⟨rfl, bel1 _ _⟩
end Go.Proofs.YtedabholcldgbaaGreatDoor
