/- The chapter's parts: the words, numbers and texts of a line. -/
import Derived.Test.YtdehkgflokeodaaGreatDoorYWide
import Derived.Test.YtdehkgflokeodaaGreatDoorYOpen
namespace Go.Proofs.YtdehkgflokeodaaGreatDoor.Y
open Go.RowKit Go.Deep

theorem pc_end (s : ByteArray) (k : Nat) (i t : Bool) (n : Nat) (h : s.size ≤ k) : pcnt (s.data.toList.drop k) i t n = n := by
  rw [List.drop_of_length_le (by simpa using h)]
  cases t <;> rw [pcnt]
set_option linter.unusedSimpArgs false in
set_option maxHeartbeats 4000000 in
set_option maxRecDepth 100000 in
theorem parts_any (s : ByteArray) (w : World) (hs : s.size ≤ 1000000000) :
    Calls Tryz.prog 29 #[.string s] w fun e w' => e = .returned (.int .i64 (pcnt s.data.toList false false 0 : Nat)) ∧ w = w' := by
  obtain ⟨R, hR⟩ : ∃ R, pcnt s.data.toList false false 0 = R := ⟨_, rfl⟩
  rw [hR]
  have hs1 : (s.size : Int) ≤ 1000000000 := by omega
  have HR := Lib.hid hR
  clear hR
  go_enter Tryz.func29, Tryz.ntmps29
  go_wp2_with fail
  go_loopg [3, 4, 5, 6] (s.size + 1) (fun m n a t i wr => ∃ (k x : Nat) (b c : Bool), k ≤ s.size + 1 ∧ m = s.size + 1 - k ∧ i = .int .i64 k ∧ n = .int .i64 x ∧ a = .bool b ∧ t = .bool c ∧ R = pcnt (s.data.toList.drop k) b c x ∧ x ≤ k ∧ w = wr)
  case atStart => exact ⟨0, 0, false, false, by omega, rfl, rfl, rfl, rfl, rfl, by rw [List.drop_zero]; exact HR.out.symm, by omega, rfl⟩
  case round =>
    obtain ⟨k, x, b, c, hk, rfl, rfl, rfl, rfl, rfl, hr, hx, rfl⟩ := hrel
    by_cases hlt : k < s.size
    · have gi : (k : Int) < (s.size : Int) := by omega
      have gi2 : (0 : Int) ≤ (k : Int) := by omega
      rw [drop_byte' s k hlt] at hr
      cases c with
      | true =>
        rw [pcnt_t] at hr
        by_cases h92 : s[k].toNat = 92
        · have g1 : ((s[k].toNat : Int) == 92) = true := by simp; omega
          rw [if_pos h92, List.drop_drop] at hr
          have HR2 := Lib.hid hr
          clear hr h92
          go_wp2_with fail
          go_roundg (s.size + 1 - (k + 2))
          case measure => omega
          case rel => exact ⟨k + 2, x, b, true, by omega, rfl, by go_num, rfl, rfl, rfl, by have := HR2.out; first | exact this | (rwa [show 1 + (k + 1) = k + 2 by omega] at this), by omega, rfl⟩
        · have g1 : ((s[k].toNat : Int) == 92) = false := by simp; omega
          rw [if_neg h92] at hr
          by_cases h34 : s[k].toNat = 34
          · have g2 : ((s[k].toNat : Int) == 34) = true := by simp; omega
            rw [if_pos h34] at hr
            have HR2 := Lib.hid hr
            clear hr h92 h34
            go_wp2_with fail
            go_roundg (s.size + 1 - (k + 1))
            case measure => omega
            case rel => exact ⟨k + 1, x, false, false, by omega, rfl, by go_num, rfl, rfl, rfl, HR2.out, by omega, rfl⟩
          · have g2 : ((s[k].toNat : Int) == 34) = false := by simp; omega
            rw [if_neg h34] at hr
            have HR2 := Lib.hid hr
            clear hr h92 h34
            go_wp2_with fail
            go_roundg (s.size + 1 - (k + 1))
            case measure => omega
            case rel => exact ⟨k + 1, x, b, true, by omega, rfl, by go_num, rfl, rfl, rfl, HR2.out, by omega, rfl⟩
      | false =>
        rw [pcnt_f] at hr
        by_cases h34 : s[k].toNat = 34
        · have g2 : ((s[k].toNat : Int) == 34) = true := by simp; omega
          rw [if_pos h34] at hr
          have HR2 := Lib.hid hr
          clear hr h34
          go_wp2_with fail
          go_roundg (s.size + 1 - (k + 1))
          case measure => omega
          case rel => exact ⟨k + 1, x + 1, b, true, by omega, rfl, by go_num, by go_num, rfl, rfl, HR2.out, by omega, rfl⟩
        · have g2 : ((s[k].toNat : Int) == 34) = false := by simp; omega
          rw [if_neg h34] at hr
          by_cases h32 : s[k].toNat = 32
          · have g3 : ((s[k].toNat : Int) == 32) = true := by simp; omega
            rw [if_pos (.inl h32)] at hr
            have HR2 := Lib.hid hr
            clear hr h34 h32
            go_wp2_with fail
            go_roundg (s.size + 1 - (k + 1))
            case measure => omega
            case rel => exact ⟨k + 1, x, false, false, by omega, rfl, by go_num, rfl, rfl, rfl, HR2.out, by omega, rfl⟩
          · have g3 : ((s[k].toNat : Int) == 32) = false := by simp; omega
            by_cases h40 : s[k].toNat = 40
            · have g4 : ((s[k].toNat : Int) == 40) = true := by simp; omega
              rw [if_pos (.inr (.inl h40))] at hr
              have HR2 := Lib.hid hr
              clear hr h34 h32 h40
              go_wp2_with fail
              go_roundg (s.size + 1 - (k + 1))
              case measure => omega
              case rel => exact ⟨k + 1, x, false, false, by omega, rfl, by go_num, rfl, rfl, rfl, HR2.out, by omega, rfl⟩
            · have g4 : ((s[k].toNat : Int) == 40) = false := by simp; omega
              by_cases h41 : s[k].toNat = 41
              · have g5 : ((s[k].toNat : Int) == 41) = true := by simp; omega
                rw [if_pos (.inr (.inr h41))] at hr
                have HR2 := Lib.hid hr
                clear hr h34 h32 h40 h41
                go_wp2_with fail
                go_roundg (s.size + 1 - (k + 1))
                case measure => omega
                case rel => exact ⟨k + 1, x, false, false, by omega, rfl, by go_num, rfl, rfl, rfl, HR2.out, by omega, rfl⟩
              · have g5 : ((s[k].toNat : Int) == 41) = false := by simp; omega
                rw [if_neg (by omega)] at hr
                cases b with
                | true =>
                  rw [if_pos rfl] at hr
                  have HR2 := Lib.hid hr
                  clear hr h34 h32 h40 h41
                  go_wp2_with fail
                  go_roundg (s.size + 1 - (k + 1))
                  case measure => omega
                  case rel => exact ⟨k + 1, x, true, false, by omega, rfl, by go_num, rfl, rfl, rfl, HR2.out, by omega, rfl⟩
                | false =>
                  rw [if_neg (fun h => Bool.noConfusion h)] at hr
                  have HR2 := Lib.hid hr
                  clear hr h34 h32 h40 h41
                  go_wp2_with fail
                  go_roundg (s.size + 1 - (k + 1))
                  case measure => omega
                  case rel => exact ⟨k + 1, x + 1, true, false, by omega, rfl, by go_num, by go_num, rfl, rfl, HR2.out, by omega, rfl⟩
    · have gi : ¬ (k : Int) < (s.size : Int) := by omega
      have HR2 := Lib.hid (hr.trans (pc_end s k b c x (by omega)))
      clear hr
      go_wp2_with fail
      go_ret
      exact ⟨ret_int (by rw [HR2.out]), rfl⟩
end Go.Proofs.YtdehkgflokeodaaGreatDoor.Y
