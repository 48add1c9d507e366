/- shape.IsName: letters, names, reserved words. -/
import Derived.Test.YtmlfiopbdlaaaaaGreatVal
import Derived.Test.YtmlfiopbdlaaaaaGreatNWords
namespace Go.Proofs.YtmlfiopbdlaaaaaGreat
open Go.RowKit Go.Deep

def letB (b : Int) : Bool := (decide (97 ≤ b) && decide (b ≤ 122)) || (decide (65 ≤ b) && decide (b ≤ 90))
def idB (b : Int) : Bool := letB b || (b == 95) || (decide (48 ≤ b) && decide (b ≤ 57))
theorem idB_u {b : Int} (h : b = 95) : idB b = true := by subst h; rfl
theorem idB_d {b : Int} (h : ¬ b < 48) (h' : ¬ 57 < b) : idB b = true := by
  have e : decide (48 ≤ b) = true := by simp; omega
  have e2 : decide (b ≤ 57) = true := by simp; omega
  unfold idB; rw [e, e2]; simp
theorem idB_n {b : Int} (h : letB b = false) (h' : ¬ b = 95) (h2 : b < 48 ∨ 57 < b) : idB b = false := by
  unfold idB; rw [h, beq_eq_false_iff_ne.2 h']; simp; omega
theorem let_ok : BOk 91 letB := by
  intro b w
  by_cases h1 : 97 ≤ b
  · by_cases h2 : b ≤ 122
    · have e : letB b = true := by simp [letB, h1, h2]
      rw [e]
      go_enter Tryz.func91, Tryz.ntmps91
      go_wp2
      go_ret
      exact ⟨rfl, rfl⟩
    · have e : letB b = false := by simp [letB]; omega
      have g3 : 65 ≤ b := by omega
      have g4 : decide (b ≤ 90) = false := by simp; omega
      rw [e]
      go_enter Tryz.func91, Tryz.ntmps91
      go_wp2
      go_ret
      exact ⟨rfl, rfl⟩
  · have g1 : decide (97 ≤ b) = false := by simpa using h1
    by_cases h3 : 65 ≤ b
    · by_cases h4 : b ≤ 90
      · have e : letB b = true := by simp [letB, h3, h4]
        rw [e]
        go_enter Tryz.func91, Tryz.ntmps91
        go_wp2
        go_ret
        exact ⟨rfl, rfl⟩
      · have e : letB b = false := by simp [letB, h1, h4]
        have g4 : decide (b ≤ 90) = false := by simpa using h4
        rw [e]
        go_enter Tryz.func91, Tryz.ntmps91
        go_wp2
        go_ret
        exact ⟨rfl, rfl⟩
    · have e : letB b = false := by simp [letB, h1, h3]
      have g3 : decide (65 ≤ b) = false := by simpa using h3
      rw [e]
      go_enter Tryz.func91, Tryz.ntmps91
      go_wp2
      go_ret
      exact ⟨rfl, rfl⟩

def identB (s : ByteArray) : Bool := decide (s.size ≤ 20) && decide (s.size ≠ 0) && letB ((s.data.toList.headD 0).toNat : Int) && allB idB s
theorem ident_any (s : ByteArray) (hs : s.size ≤ maxLen) (w : World) :
    Calls Tryz.prog 56 #[.string s] w fun e w' => e = .returned (.bool (identB s)) ∧ w = w' := by
  unfold maxLen at hs
  obtain ⟨r, hr⟩ : ∃ r, identB s = r := ⟨_, rfl⟩
  rw [hr]
  by_cases h1 : s.size ≤ 20
  · have g1 : decide ((20 : Int) < (s.size : Int)) = false := by simp; omega
    by_cases h2 : s.size = 0
    · obtain rfl : false = r := by rw [← hr]; simp [identB, h2]
      have g2 := toList_nil h2
      have g3 : s = ⟨#[]⟩ := by rcases s with ⟨⟨l⟩⟩; have : l = [] := by simpa [ByteArray.size] using h2
                                subst this; rfl
      subst g3
      clear hr
      go_enter Tryz.func56, Tryz.ntmps56
      go_wp2_with fail
      go_ret
      exact ⟨rfl, rfl⟩
    · have h0 : 0 < s.size := by omega
      have g1' := toList_ne h2
      have g2 : (s.toList == []) = false := by simpa using g1'
      have g3 : s.toList.isEmpty = false := by simpa using g1'
      have hh : (s.data.toList.headD 0).toNat = s[0].toNat := by
        have : s.data.toList[0]? = some s[0] := by rw [List.getElem?_eq_getElem (by simpa using h0)]; rfl
        rw [← List.head?_eq_getElem?] at this
        rw [List.headD_eq_head?_getD, this]; rfl
      have HL := Lib.hid (let_ok (s[0].toNat : Int) w)
      cases h3 : letB (s[0].toNat : Int) with
      | false =>
        rw [h3] at HL
        obtain rfl : false = r := by rw [← hr]; unfold identB; rw [hh, h3]; simp
        clear hr hh h3
        go_enter Tryz.func56, Tryz.ntmps56
        go_wp2_with (go_at_call 91; refine (HL.out).mono ?_; rintro e w2 ⟨rfl, rfl⟩)
        go_ret
        exact ⟨rfl, rfl⟩
      | true =>
        rw [h3] at HL
        have e : allB idB s = r := by rw [← hr]; unfold identB; rw [hh, h3]; simp [h1, h2]
        subst e
        clear hr hh h3
        go_enter Tryz.func56, Tryz.ntmps56
        go_wp2_with (go_at_call 91; refine (HL.out).mono ?_; rintro e w2 ⟨rfl, rfl⟩)
        go_loopg [20] (s.size) (fun m i wr => ∃ k : Nat, k ≤ s.size ∧ m = s.size - k ∧ i = .int .i64 k ∧ AllTo idB s k ∧ w = wr)
        case atStart => exact ⟨0, by omega, rfl, rfl, fun j _ h => absurd h (by omega), rfl⟩
        case round =>
          obtain ⟨k, hk, rfl, rfl, hA, rfl⟩ := hrel
          by_cases hlt : k < s.size
          · have HP := Lib.hid (let_ok (s[k].toNat : Int) w)
            have HX : Hid (idB (s[k].toNat : Int) = true → AllTo idB s (k + 1)) := Lib.hid fun h => hA.step hlt h
            have HF : Hid (idB (s[k].toNat : Int) = false → allB idB s = false) := Lib.hid fun h => AllTo.stop hlt h
            clear hA
            cases hp : letB (s[k].toNat : Int) with
            | true =>
              rw [hp] at HP
              have HS := Lib.hid (HX.out (by simp [idB, hp]))
              clear hp
              go_wp2_with (go_at_call 91; refine (HP.out).mono ?_; rintro e w2 ⟨rfl, rfl⟩)
              go_roundg (s.size - (k + 1))
              case measure => omega
              case rel => exact ⟨k + 1, by omega, rfl, by go_num, HS.out, rfl⟩
            | false =>
              rw [hp] at HP
              by_cases hu : (s[k].toNat : Int) = 95
              · have HS := Lib.hid (HX.out (idB_u hu))
                have hu' : ((s[k].toNat : Int) != 95) = false := by simpa using hu
                clear hp hu
                go_wp2_with (go_at_call 91; refine (HP.out).mono ?_; rintro e w2 ⟨rfl, rfl⟩)
                go_roundg (s.size - (k + 1))
                case measure => omega
                case rel => exact ⟨k + 1, by omega, rfl, by go_num, HS.out, rfl⟩
              · have hu' : ((s[k].toNat : Int) != 95) = true := by simpa using hu
                by_cases h48 : (s[k].toNat : Int) < 48
                · have HS := Lib.hid (HF.out (idB_n hp hu (by omega)))
                  clear hp
                  go_wp2_with (go_at_call 91; refine (HP.out).mono ?_; rintro e w2 ⟨rfl, rfl⟩)
                  go_ret
                  exact ⟨ret_bool HS.out.symm, rfl⟩
                · have h48' : decide ((s[k].toNat : Int) < 48) = false := by simpa using h48
                  by_cases h57 : 57 < (s[k].toNat : Int)
                  · have HS := Lib.hid (HF.out (idB_n hp hu (by omega)))
                    clear hp
                    go_wp2_with (go_at_call 91; refine (HP.out).mono ?_; rintro e w2 ⟨rfl, rfl⟩)
                    go_ret
                    exact ⟨ret_bool HS.out.symm, rfl⟩
                  · have h57' : decide (57 < (s[k].toNat : Int)) = false := by simpa using h57
                    have HS := Lib.hid (HX.out (idB_d h48 h57))
                    clear hp
                    go_wp2_with (go_at_call 91; refine (HP.out).mono ?_; rintro e w2 ⟨rfl, rfl⟩)
                    go_roundg (s.size - (k + 1))
                    case measure => omega
                    case rel => exact ⟨k + 1, by omega, rfl, by go_num, HS.out, rfl⟩
          · have HS := Lib.hid (hA.ends (by omega))
            go_wp2_with fail
            go_ret
            exact ⟨ret_bool HS.out.symm, rfl⟩
  · obtain rfl : false = r := by rw [← hr]; simp [identB, h1]
    have g1 : decide ((20 : Int) < (s.size : Int)) = true := by simp; omega
    have g1' : (20 : Int) < (s.size : Int) := by omega
    clear hr h1
    go_enter Tryz.func56, Tryz.ntmps56
    go_wp2_with fail
    go_ret
    exact ⟨rfl, rfl⟩
end Go.Proofs.YtmlfiopbdlaaaaaGreat
