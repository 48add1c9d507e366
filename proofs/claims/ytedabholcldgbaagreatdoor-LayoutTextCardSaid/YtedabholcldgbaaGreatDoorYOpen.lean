/- layout's openBehind. -/
import Derived.Test.YtedabholcldgbaaGreatDoorYPure
import Derived.Test.YtedabholcldgbaaGreatDoorBytes
namespace Go.Proofs.YtedabholcldgbaaGreatDoor.Y
open Go.RowKit Go.Deep

/-- How many lists are open behind a line. -/
def obF : List UInt8 → Bool → Int → Int
  | [], _, n => n
  | b :: r, q, n =>
    if b.toNat = 34 then obF r (!q) n
    else if q = true ∧ b.toNat = 92 then obF (r.drop 1) q n
    else if q = true then obF r q n
    else if b.toNat = 59 then n
    else if b.toNat = 40 then obF r q (n + 1)
    else if b.toNat = 41 then obF r q (n - 1)
    else obF r q n
termination_by l => l.length
decreasing_by all_goals (simp; try omega)
theorem drop_byte' (s : ByteArray) (k : Nat) (h : k < s.size) : s.data.toList.drop k = s[k] :: s.data.toList.drop (k + 1) := by
  have h' : k < s.data.toList.length := by simpa using h
  rw [List.drop_eq_getElem_cons h']
  rfl
theorem ob_end (s : ByteArray) (k : Nat) (q : Bool) (n : Int) (h : s.size ≤ k) : obF (s.data.toList.drop k) q n = n := by
  rw [List.drop_of_length_le (by simpa using h), obF]
set_option linter.unusedSimpArgs false in
set_option maxHeartbeats 4000000 in
set_option maxRecDepth 100000 in
theorem openBehind_any (s : ByteArray) (n : Int) (w : World) (hs : s.size ≤ 1000000000) (hn0 : -1000000000 ≤ n) (hn1 : n ≤ 1000000000) :
    Calls Tryz.prog 81 #[.string s, .int .i64 n] w fun e w' => e = .returned (.int .i64 (obF s.data.toList false n)) ∧ w = w' := by
  obtain ⟨R, hR⟩ : ∃ R, obF s.data.toList false n = R := ⟨_, rfl⟩
  rw [hR]
  have hs1 : (s.size : Int) ≤ 1000000000 := by omega
  have HR := Lib.hid hR
  clear hR
  go_enter Tryz.func81, Tryz.ntmps81
  go_wp2_with fail
  go_loopg [1, 5, 6] (s.size + 1) (fun m o q i wr => ∃ (k : Nat) (b : Bool) (x : Int), k ≤ s.size + 1 ∧ m = s.size + 1 - k ∧ i = .int .i64 k ∧ q = .bool b ∧ o = .int .i64 x ∧ R = obF (s.data.toList.drop k) b x ∧ n - k ≤ x ∧ x ≤ n + k ∧ w = wr)
  case atStart => exact ⟨0, false, n, by omega, rfl, rfl, rfl, rfl, by rw [List.drop_zero]; exact HR.out.symm, by simp, by simp, rfl⟩
  case round =>
    obtain ⟨k, b, x, hk, rfl, rfl, rfl, rfl, hr, hx0, hx1, rfl⟩ := hrel
    by_cases hlt : k < s.size
    · have gi : (k : Int) < (s.size : Int) := by omega
      have gi2 : (0 : Int) ≤ (k : Int) := by omega
      rw [drop_byte' s k hlt, obF] at hr
      by_cases h34 : s[k].toNat = 34
      · have g1 : ((s[k].toNat : Int) == 34) = true := by simp; omega
        rw [if_pos h34] at hr
        have HR2 := Lib.hid hr
        clear hr h34
        go_wp2_with fail
        go_roundg (s.size + 1 - (k + 1))
        case measure => omega
        case rel => exact ⟨k + 1, !b, x, by omega, rfl, by go_num, rfl, rfl, HR2.out, by omega, by omega, rfl⟩
      · have g1 : ((s[k].toNat : Int) == 34) = false := by simp; omega
        rw [if_neg h34] at hr
        cases b with
        | true =>
          by_cases h92 : s[k].toNat = 92
          · have g2 : ((s[k].toNat : Int) == 92) = true := by simp; omega
            rw [if_pos ⟨rfl, h92⟩, List.drop_drop] at hr
            have HR2 := Lib.hid hr
            clear hr h92 h34
            go_wp2_with fail
            go_roundg (s.size + 1 - (k + 2))
            case measure => omega
            case rel => exact ⟨k + 2, true, x, by omega, rfl, by go_num, rfl, rfl, by have := HR2.out; first | exact this | (rwa [show 1 + (k + 1) = k + 2 by omega] at this), by omega, by omega, rfl⟩
          · have g2 : ((s[k].toNat : Int) == 92) = false := by simp; omega
            rw [if_neg (fun h => h92 h.2), if_pos rfl] at hr
            have HR2 := Lib.hid hr
            clear hr h92 h34
            go_wp2_with fail
            go_roundg (s.size + 1 - (k + 1))
            case measure => omega
            case rel => exact ⟨k + 1, true, x, by omega, rfl, by go_num, rfl, rfl, HR2.out, by omega, by omega, rfl⟩
        | false =>
          rw [if_neg (fun h => Bool.noConfusion h.1), if_neg (fun h => Bool.noConfusion h)] at hr
          by_cases h59 : s[k].toNat = 59
          · have g2 : ((s[k].toNat : Int) == 59) = true := by simp; omega
            rw [if_pos h59] at hr
            have HR2 := Lib.hid hr
            clear hr h59 h34
            go_wp2_with fail
            go_ret
            exact ⟨ret_int HR2.out.symm, rfl⟩
          · have g2 : ((s[k].toNat : Int) == 59) = false := by simp; omega
            rw [if_neg h59] at hr
            by_cases h40 : s[k].toNat = 40
            · have g3 : ((s[k].toNat : Int) == 40) = true := by simp; omega
              rw [if_pos h40] at hr
              have HR2 := Lib.hid hr
              clear hr h59 h34 h40
              go_wp2_with fail
              go_roundg (s.size + 1 - (k + 1))
              case measure => omega
              case rel => exact ⟨k + 1, false, x + 1, by omega, rfl, by go_num, rfl, rfl, HR2.out, by omega, by omega, rfl⟩
            · have g3 : ((s[k].toNat : Int) == 40) = false := by simp; omega
              rw [if_neg h40] at hr
              by_cases h41 : s[k].toNat = 41
              · have g4 : ((s[k].toNat : Int) == 41) = true := by simp; omega
                rw [if_pos h41] at hr
                have HR2 := Lib.hid hr
                clear hr h59 h34 h40 h41
                go_wp2_with fail
                go_roundg (s.size + 1 - (k + 1))
                case measure => omega
                case rel => exact ⟨k + 1, false, x - 1, by omega, rfl, by go_num, rfl, rfl, HR2.out, by omega, by omega, rfl⟩
              · have g4 : ((s[k].toNat : Int) == 41) = false := by simp; omega
                rw [if_neg h41] at hr
                have HR2 := Lib.hid hr
                clear hr h59 h34 h40 h41
                go_wp2_with fail
                go_roundg (s.size + 1 - (k + 1))
                case measure => omega
                case rel => exact ⟨k + 1, false, x, by omega, rfl, by go_num, rfl, rfl, HR2.out, by omega, by omega, rfl⟩
    · have gi : ¬ (k : Int) < (s.size : Int) := by omega
      have HR2 := Lib.hid (hr.trans (ob_end s k b x (by omega)))
      clear hr
      go_wp2_with fail
      go_ret
      exact ⟨ret_int HR2.out.symm, rfl⟩
end Go.Proofs.YtedabholcldgbaaGreatDoor.Y
