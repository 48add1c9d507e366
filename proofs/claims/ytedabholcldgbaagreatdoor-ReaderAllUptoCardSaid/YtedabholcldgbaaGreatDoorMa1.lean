/- Several texts, one behind the other. -/
import Derived.Test.YtedabholcldgbaaGreatDoorValid
import Derived.Test.YtedabholcldgbaaGreatDoorReadText
import Derived.Test.YtedabholcldgbaaGreatDoorRef1
import Derived.Test.YtedabholcldgbaaGreatDoorText
import Derived.Test.YtedabholcldgbaaGreatDoorTxt
import Derived.Lib.AppendStr
import Derived.Lib.BufferKept
import Derived.Test.YtedabholcldgbaaGreatDoorBlk
import Derived.Laws.OwnMore
import Derived.Laws.Concat
import Derived.KernelRfl
import Derived.Test.YtedabholcldgbaaGreatDoorBulk
import Derived.Test.YtedabholcldgbaaGreatDoorLaid
import Derived.Lib.LaidTab
import Derived.Lib.AppendIntMem

/- The document's own words, texts and numerals. -/
namespace Go.Proofs.YtedabholcldgbaaGreatDoor
open Go.RowKit Go.Deep

theorem visible_ok : BOk 128 tokB := by
  intro b w
  by_cases h1 : 33 ≤ b
  · by_cases h2 : b ≤ 126
    · by_cases h3 : b = 40
      · subst h3
        go_enter Tryz.func128, Tryz.ntmps128
        go_wp2
        go_ret
        exact ⟨rfl, rfl⟩
      · by_cases h4 : b = 41
        · subst h4
          go_enter Tryz.func128, Tryz.ntmps128
          go_wp2
          go_ret
          exact ⟨rfl, rfl⟩
        · by_cases h5 : b = 34
          · subst h5
            go_enter Tryz.func128, Tryz.ntmps128
            go_wp2
            go_ret
            exact ⟨rfl, rfl⟩
          · by_cases h6 : b = 59
            · subst h6
              go_enter Tryz.func128, Tryz.ntmps128
              go_wp2
              go_ret
              exact ⟨rfl, rfl⟩
            · have e : tokB b = true := by simp [tokB, plainB, h1, h2, h3, h4, h5, h6]
              rw [e]
              have g3 : (b != 40) = true := by simpa using h3
              have g4 : (b != 41) = true := by simpa using h4
              have g5 : (b != 34) = true := by simpa using h5
              have g6 : (b != 59) = true := by simpa using h6
              clear h3 h4 h5 h6 e
              go_enter Tryz.func128, Tryz.ntmps128
              go_wp2
              go_ret
              exact ⟨rfl, rfl⟩
    · have e : tokB b = false := by simp [tokB, plainB, h2]
      rw [e]
      have h2' : decide (b ≤ 126) = false := by simpa using h2
      go_enter Tryz.func128, Tryz.ntmps128
      go_wp2
      go_ret
      exact ⟨rfl, rfl⟩
  · have e : tokB b = false := by simp [tokB, plainB, h1]
    rw [e]
    have h1' : decide (33 ≤ b) = false := by simpa using h1
    go_enter Tryz.func128, Tryz.ntmps128
    go_wp2
    go_ret
    exact ⟨rfl, rfl⟩

/-- Not empty, and digits alone. -/
def digsB (d : ByteArray) : Bool := !(d.size == 0) && allB digB d
theorem extract_list (s : ByteArray) : (s.extract 1 s.size).data.toList = s.data.toList.drop 1 := by
  rw [ByteArray.data_extract, Array.toList_extract]
  simp [List.take_of_length_le]
theorem isEmpty_size (d : ByteArray) : d.data.toList.isEmpty = (d.size == 0) := by
  cases h : d.data.toList with
  | nil => have : d.size = 0 := by have := congrArg List.length h; simpa using this
           simp [this]
  | cons a r => have : d.size = r.length + 1 := by have := congrArg List.length h; simpa using this
                simp [this]
theorem numB_trim {s : ByteArray} (h : 1 < s.size) (h0 : s[0].toNat = 45) : numB s = digsB (s.extract 1 s.size) := by
  have hl : s.data.toList = s[0] :: s.data.toList.drop 1 := by
    exact List.drop_eq_getElem_cons (l := s.data.toList) (i := 0) (by simp; omega)
  have ht : Lib.trimPrefix s.data.toList [45] = s.data.toList.drop 1 := by
    have e : s[0] = 45 := by rw [← UInt8.toNat_inj]; simpa using h0
    unfold Lib.trimPrefix
    rw [if_pos]
    · rfl
    · rw [hl, e]; simp [Lib.hasPrefix]
  unfold numB numL digsB allB
  rw [ht, ← isEmpty_size, extract_list]
theorem numB_plain {s : ByteArray} (h : ¬ (1 < s.size ∧ ∃ h : 0 < s.size, (s[0]'h).toNat = 45)) : numB s = digsB s := by
  by_cases hp : ∃ h : 0 < s.size, (s[0]'h).toNat = 45
  · obtain ⟨h0, h1⟩ := hp
    have hs : s.size = 1 := by
      by_cases e : 1 < s.size
      · exact absurd ⟨e, h0, h1⟩ h
      · omega
    have e : s[0] = 45 := by rw [← UInt8.toNat_inj]; simpa using h1
    have hl : s.data.toList = [45] := by
      have := List.drop_eq_getElem_cons (l := s.data.toList) (i := 0) (by simp; omega)
      have h2 : s.data.toList.drop 1 = [] := List.drop_of_length_le (by simp; omega)
      simp only [List.drop_zero, Nat.zero_add] at this
      rw [h2] at this
      rw [this]
      have : s.data.toList[0]'(by simp; omega) = s[0] := rfl
      rw [this, e]
    unfold numB numL digsB allB
    rw [hl, hs]
    decide
  · have ht : Lib.trimPrefix s.data.toList [45] = s.data.toList := by
      unfold Lib.trimPrefix
      rw [if_neg]
      intro hpre
      apply hp
      cases hl : s.data.toList with
      | nil => rw [hl] at hpre; simp [Lib.hasPrefix] at hpre
      | cons a r =>
        rw [hl] at hpre
        have hz : 0 < s.size := by have := congrArg List.length hl; simp at this; omega
        refine ⟨hz, ?_⟩
        have e1 : s[0] = a := by
          have : s.data.toList[0]'(by simpa using hz) = a := by simp [hl]
          exact this
        rw [e1]
        simp [Lib.hasPrefix] at hpre
        rw [← hpre]
        rfl
    unfold numB numL digsB allB
    rw [ht, ← isEmpty_size]
set_option maxHeartbeats 1000000 in
theorem digits_any (s : ByteArray) (hs : s.size ≤ maxLen) (w : World) :
    Calls Tryz.prog 141 #[.string s] w fun e w' => e = .returned (.bool (numB s)) ∧ w = w' := by
  unfold maxLen at hs
  by_cases hp : 1 < s.size ∧ ∃ h : 0 < s.size, (s[0]'h).toNat = 45
  · obtain ⟨h1, h0, h2⟩ := hp
    obtain ⟨r, hr⟩ : ∃ r, digsB (s.extract 1 s.size) = r := ⟨_, rfl⟩
    rw [numB_trim h1 h2, hr]
    have HR := Lib.hid hr
    clear hr
    have g1 : (1 : Int) < (s.size : Int) := by omega
    have g2 : ((s[0].toNat : Int) == 45) = true := by simp; omega
    have hds : (s.extract 1 s.size).size = s.size - 1 := by simp
    have HD := Lib.hid hds
    clear h2 hds
    go_enter Tryz.func141, Tryz.ntmps141
    go_wp2_with fail
    generalize hdd : s.extract 1 s.size = d
    have hd2 : d.size ≤ 9223372036854775807 := by rw [← hdd, HD.out]; omega
    have HRD : Hid (digsB d = r) := Lib.hid (by rw [← hdd]; exact HR.out)
    clear hdd HD hs g1 g2 HR
    by_cases hz : d.size = 0
    · have z1 := toList_nil hz
      have HN : Hid (digsB d = false) := Lib.hid (by unfold digsB; simp [hz])
      go_loopg [3] (0) (fun m i wr => m = 0 ∧ i = .int .i64 0 ∧ w = wr)
      case atStart => exact ⟨rfl, rfl, rfl⟩
      case round =>
        obtain ⟨_, rfl, rfl⟩ := hrel
        have hz0 : ¬ 0 < d.size := by omega
        clear hz
        go_wp2_with fail
        go_ret
        exact ⟨ret_bool (by rw [← HRD.out, HN.out]), rfl⟩
    · have z1 := toList_ne hz
      have z2 : (d.toList.isEmpty) = false := by simpa using z1
      have z3 : (!d.toList.isEmpty) = true := by simpa using z1
      have HN : Hid (digsB d = allB digB d) := Lib.hid (by unfold digsB; simp [hz])
      go_loopg [3] (d.size) (fun m i wr => ∃ k : Nat, k ≤ d.size ∧ m = d.size - k ∧ i = .int .i64 k ∧ AllTo digB d k ∧ w = wr)
      case atStart => exact ⟨0, by omega, rfl, rfl, fun j _ h => absurd h (by omega), rfl⟩
      case round =>
        obtain ⟨k, hk, rfl, rfl, hL, rfl⟩ := hrel
        have HZ := Lib.hid hz
        have Z1 := Lib.hid z1
        clear hz z1
        by_cases hlt : k < d.size
        · by_cases b1 : d[k].toNat < 48
          · have g1 : decide ((d[k].toNat : Int) < 48) = true := by simp; omega
            have HS := Lib.hid (AllTo.stop hlt (p := digB) (by simp [digB]; omega))
            clear b1 hL
            go_wp2_with fail
            go_ret
            exact ⟨ret_bool (by rw [← HRD.out, HN.out, HS.out]), rfl⟩
          · have g1 : decide ((d[k].toNat : Int) < 48) = false := by simp; omega
            by_cases b2 : 57 < d[k].toNat
            · have g2 : decide ((57 : Int) < (d[k].toNat : Int)) = true := by simp; omega
              have HS := Lib.hid (AllTo.stop hlt (p := digB) (by simp [digB]; omega))
              clear b1 b2 hL
              go_wp2_with fail
              go_ret
              exact ⟨ret_bool (by rw [← HRD.out, HN.out, HS.out]), rfl⟩
            · have g2 : decide ((57 : Int) < (d[k].toNat : Int)) = false := by simp; omega
              have HS := Lib.hid (hL.step hlt (by simp [digB]; omega))
              clear b1 b2 hL
              go_wp2_with fail
              go_roundg (d.size - (k + 1))
              case measure => omega
              case rel => exact ⟨k + 1, by omega, rfl, by go_num, HS.out, rfl⟩
        · have HS := Lib.hid (hL.ends (by omega))
          clear hL
          go_wp2_with fail
          go_ret
          exact ⟨ret_bool (by rw [← HRD.out, HN.out, HS.out]), rfl⟩
  · obtain ⟨r, hr⟩ : ∃ r, digsB s = r := ⟨_, rfl⟩
    rw [numB_plain hp, hr]
    have HRD := Lib.hid hr
    clear hr
    by_cases h1 : 1 < s.size
    · have g1 : (1 : Int) < (s.size : Int) := by omega
      have g2 : ((s[0].toNat : Int) == 45) = false := by
        have : s[0].toNat ≠ 45 := fun e => hp ⟨h1, by omega, e⟩
        simp; omega
      clear hp
      go_enter Tryz.func141, Tryz.ntmps141
      go_wp2_with fail
      obtain ⟨d, rfl⟩ : ∃ d, d = s := ⟨_, rfl⟩
      have hd2 : d.size ≤ 9223372036854775807 := by omega
      clear hs g1 g2 h1
      by_cases hz : d.size = 0
      · have z1 := toList_nil hz
        have HN : Hid (digsB d = false) := Lib.hid (by unfold digsB; simp [hz])
        go_loopg [3] (0) (fun m i wr => m = 0 ∧ i = .int .i64 0 ∧ w = wr)
        case atStart => exact ⟨rfl, rfl, rfl⟩
        case round =>
          obtain ⟨_, rfl, rfl⟩ := hrel
          have hz0 : ¬ 0 < d.size := by omega
          clear hz
          go_wp2_with fail
          all_goals
            go_ret
            exact ⟨ret_bool (by rw [← HRD.out, HN.out]), rfl⟩
      · have z1 := toList_ne hz
        have z2 : (d.toList.isEmpty) = false := by simpa using z1
        have z3 : (!d.toList.isEmpty) = true := by simpa using z1
        have HN : Hid (digsB d = allB digB d) := Lib.hid (by unfold digsB; simp [hz])
        go_loopg [3] (d.size) (fun m i wr => ∃ k : Nat, k ≤ d.size ∧ m = d.size - k ∧ i = .int .i64 k ∧ AllTo digB d k ∧ w = wr)
        case atStart => exact ⟨0, by omega, rfl, rfl, fun j _ h => absurd h (by omega), rfl⟩
        case round =>
          obtain ⟨k, hk, rfl, rfl, hL, rfl⟩ := hrel
          have HZ := Lib.hid hz
          have Z1 := Lib.hid z1
          clear hz z1
          by_cases hlt : k < d.size
          · by_cases b1 : d[k].toNat < 48
            · have g1 : decide ((d[k].toNat : Int) < 48) = true := by simp; omega
              have HS := Lib.hid (AllTo.stop hlt (p := digB) (by simp [digB]; omega))
              clear b1 hL
              go_wp2_with fail
              go_ret
              exact ⟨ret_bool (by rw [← HRD.out, HN.out, HS.out]), rfl⟩
            · have g1 : decide ((d[k].toNat : Int) < 48) = false := by simp; omega
              by_cases b2 : 57 < d[k].toNat
              · have g2 : decide ((57 : Int) < (d[k].toNat : Int)) = true := by simp; omega
                have HS := Lib.hid (AllTo.stop hlt (p := digB) (by simp [digB]; omega))
                clear b1 b2 hL
                go_wp2_with fail
                go_ret
                exact ⟨ret_bool (by rw [← HRD.out, HN.out, HS.out]), rfl⟩
              · have g2 : decide ((57 : Int) < (d[k].toNat : Int)) = false := by simp; omega
                have HS := Lib.hid (hL.step hlt (by simp [digB]; omega))
                clear b1 b2 hL
                go_wp2_with fail
                go_roundg (d.size - (k + 1))
                case measure => omega
                case rel => exact ⟨k + 1, by omega, rfl, by go_num, HS.out, rfl⟩
          · have HS := Lib.hid (hL.ends (by omega))
            clear hL
            go_wp2_with fail
            go_ret
            exact ⟨ret_bool (by rw [← HRD.out, HN.out, HS.out]), rfl⟩
    · have g1 : ¬ (1 : Int) < (s.size : Int) := by omega
      clear hp
      go_enter Tryz.func141, Tryz.ntmps141
      go_wp2_with fail
      obtain ⟨d, rfl⟩ : ∃ d, d = s := ⟨_, rfl⟩
      have hd2 : d.size ≤ 9223372036854775807 := by omega
      clear hs g1 h1
      by_cases hz : d.size = 0
      · have z1 := toList_nil hz
        have HN : Hid (digsB d = false) := Lib.hid (by unfold digsB; simp [hz])
        go_loopg [3] (0) (fun m i wr => m = 0 ∧ i = .int .i64 0 ∧ w = wr)
        case atStart => exact ⟨rfl, rfl, rfl⟩
        case round =>
          obtain ⟨_, rfl, rfl⟩ := hrel
          have hz0 : ¬ 0 < d.size := by omega
          clear hz
          go_wp2_with fail
          go_ret
          exact ⟨ret_bool (by rw [← HRD.out, HN.out]), rfl⟩
      · have z1 := toList_ne hz
        have z2 : (d.toList.isEmpty) = false := by simpa using z1
        have z3 : (!d.toList.isEmpty) = true := by simpa using z1
        have HN : Hid (digsB d = allB digB d) := Lib.hid (by unfold digsB; simp [hz])
        go_loopg [3] (d.size) (fun m i wr => ∃ k : Nat, k ≤ d.size ∧ m = d.size - k ∧ i = .int .i64 k ∧ AllTo digB d k ∧ w = wr)
        case atStart => exact ⟨0, by omega, rfl, rfl, fun j _ h => absurd h (by omega), rfl⟩
        case round =>
          obtain ⟨k, hk, rfl, rfl, hL, rfl⟩ := hrel
          have HZ := Lib.hid hz
          have Z1 := Lib.hid z1
          clear hz z1
          by_cases hlt : k < d.size
          · by_cases b1 : d[k].toNat < 48
            · have g1 : decide ((d[k].toNat : Int) < 48) = true := by simp; omega
              have HS := Lib.hid (AllTo.stop hlt (p := digB) (by simp [digB]; omega))
              clear b1 hL
              go_wp2_with fail
              go_ret
              exact ⟨ret_bool (by rw [← HRD.out, HN.out, HS.out]), rfl⟩
            · have g1 : decide ((d[k].toNat : Int) < 48) = false := by simp; omega
              by_cases b2 : 57 < d[k].toNat
              · have g2 : decide ((57 : Int) < (d[k].toNat : Int)) = true := by simp; omega
                have HS := Lib.hid (AllTo.stop hlt (p := digB) (by simp [digB]; omega))
                clear b1 b2 hL
                go_wp2_with fail
                go_ret
                exact ⟨ret_bool (by rw [← HRD.out, HN.out, HS.out]), rfl⟩
              · have g2 : decide ((57 : Int) < (d[k].toNat : Int)) = false := by simp; omega
                have HS := Lib.hid (hL.step hlt (by simp [digB]; omega))
                clear b1 b2 hL
                go_wp2_with fail
                go_roundg (d.size - (k + 1))
                case measure => omega
                case rel => exact ⟨k + 1, by omega, rfl, by go_num, HS.out, rfl⟩
          · have HS := Lib.hid (hL.ends (by omega))
            clear hL
            go_wp2_with fail
            go_ret
            exact ⟨ret_bool (by rw [← HRD.out, HN.out, HS.out]), rfl⟩

set_option maxHeartbeats 1000000 in
theorem rword_any (s : ByteArray) (hs : s.size ≤ maxLen) (w : World) :
    Calls Tryz.prog 105 #[.string s] w fun e w' => e = .returned (.bool (wordB s)) ∧ w = w' := by
  have HD := Lib.hid (digits_any s hs)
  unfold maxLen at hs
  obtain ⟨r, hr⟩ : ∃ r, wordB s = r := ⟨_, rfl⟩
  rw [hr]
  have HR := Lib.hid hr
  clear hr
  go_enter Tryz.func105, Tryz.ntmps105
  go_wp2_with fail
  go_loopg [3] (s.size) (fun m i wr => ∃ k : Nat, k ≤ s.size ∧ m = s.size - k ∧ i = .int .i64 k ∧ AllTo tokB s k ∧ w = wr)
  case atStart => exact ⟨0, by omega, rfl, rfl, fun j _ h => absurd h (by omega), rfl⟩
  case round =>
    obtain ⟨k, hk, rfl, rfl, hL, rfl⟩ := hrel
    by_cases hlt : k < s.size
    · have HP := Lib.hid (visible_ok (s[k].toNat : Int) w)
      cases hp : tokB (s[k].toNat : Int) with
      | true =>
        rw [hp] at HP
        have HS := Lib.hid (hL.step hlt hp)
        clear hp hL
        go_wp2_with (go_at_call 128; refine (HP.out).mono ?_; rintro e w2 ⟨rfl, rfl⟩)
        go_roundg (s.size - (k + 1))
        case measure => omega
        case rel => exact ⟨k + 1, by omega, rfl, by go_num, HS.out, rfl⟩
      | false =>
        rw [hp] at HP
        have HS : Hid (false = r) := Lib.hid (by rw [← HR.out]; unfold wordB; rw [AllTo.stop hlt hp]; simp)
        clear hp hL
        go_wp2_with (go_at_call 128; refine (HP.out).mono ?_; rintro e w2 ⟨rfl, rfl⟩)
        go_ret
        exact ⟨ret_bool HS.out, rfl⟩
    · have ha := hL.ends (by omega)
      have HN := HR.out
      unfold wordB at HN
      rw [ha] at HN
      clear hL ha
      by_cases z1 : 1 ≤ s.size
      · by_cases z2 : s.size ≤ 30
        · have HS : Hid ((!numB s) = r) := Lib.hid (by rw [← HN]; simp [z1, z2])
          have z3 : (s.size : Int) ≤ 30 := by omega
          have z4 : (1 : Int) ≤ (s.size : Int) := by omega
          clear HN
          go_wp2_with (go_at_call 141; refine (HD.out _).mono ?_; rintro e w2 ⟨rfl, rfl⟩)
          go_ret
          exact ⟨ret_bool HS.out, rfl⟩
        · have HS : Hid (false = r) := Lib.hid (by rw [← HN]; simp [z2])
          have z3 : ¬ (s.size : Int) ≤ 30 := by omega
          have z4 : (1 : Int) ≤ (s.size : Int) := by omega
          clear HN
          go_wp2_with fail
          go_ret
          exact ⟨ret_bool HS.out, rfl⟩
      · have HS : Hid (false = r) := Lib.hid (by rw [← HN]; simp [z1])
        have z4 : ¬ (1 : Int) ≤ (s.size : Int) := by omega
        clear HN
        go_wp2_with fail
        go_ret
        exact ⟨ret_bool HS.out, rfl⟩

set_option maxHeartbeats 1000000 in
theorem rtext_ok (s : ByteArray) (hs : s.size ≤ maxLen) (w : World) :
    Calls Tryz.prog 106 #[.string s] w fun e w' => e = .returned (.bool (textB s)) ∧ w = w' := by
  unfold maxLen at hs
  obtain ⟨r, hr⟩ : ∃ r, textB s = r := ⟨_, rfl⟩
  rw [hr]
  have HR := Lib.hid hr
  clear hr
  go_enter Tryz.func106, Tryz.ntmps106
  go_wp2_with fail
  go_loopg [3] (s.size) (fun m i wr => ∃ k : Nat, k ≤ s.size ∧ m = s.size - k ∧ i = .int .i64 k ∧ AllTo txtB s k ∧ w = wr)
  case atStart => exact ⟨0, by omega, rfl, rfl, fun j _ h => absurd h (by omega), rfl⟩
  case round =>
    obtain ⟨k, hk, rfl, rfl, hL, rfl⟩ := hrel
    by_cases hlt : k < s.size
    · by_cases b0 : s[k].toNat = 10
      · have g0 : ((s[k].toNat : Int) != 10) = false := by simp; omega
        have HS := Lib.hid (hL.step hlt (by simp [txtB, b0]))
        clear b0 hL
        go_wp2_with fail
        go_roundg (s.size - (k + 1))
        case measure => omega
        case rel => exact ⟨k + 1, by omega, rfl, by go_num, HS.out, rfl⟩
      · have g0 : ((s[k].toNat : Int) != 10) = true := by simp; omega
        by_cases b1 : s[k].toNat < 32
        · have g1 : decide ((s[k].toNat : Int) < 32) = true := by simp; omega
          have HS : Hid (false = r) := Lib.hid (by rw [← HR.out]; unfold textB; rw [AllTo.stop hlt (p := txtB) (by simp [txtB, plainB]; omega)]; simp)
          clear b0 b1 hL
          go_wp2_with fail
          go_ret
          exact ⟨ret_bool HS.out, rfl⟩
        · have g1 : decide ((s[k].toNat : Int) < 32) = false := by simp; omega
          by_cases b2 : 126 < s[k].toNat
          · have g2 : decide ((126 : Int) < (s[k].toNat : Int)) = true := by simp; omega
            have HS : Hid (false = r) := Lib.hid (by rw [← HR.out]; unfold textB; rw [AllTo.stop hlt (p := txtB) (by simp [txtB, plainB]; omega)]; simp)
            clear b0 b1 b2 hL
            go_wp2_with fail
            go_ret
            exact ⟨ret_bool HS.out, rfl⟩
          · have g2 : decide ((126 : Int) < (s[k].toNat : Int)) = false := by simp; omega
            have HS := Lib.hid (hL.step hlt (by simp [txtB, plainB]; omega))
            clear b0 b1 b2 hL
            go_wp2_with fail
            go_roundg (s.size - (k + 1))
            case measure => omega
            case rel => exact ⟨k + 1, by omega, rfl, by go_num, HS.out, rfl⟩
    · have ha := hL.ends (by omega)
      have HN := HR.out
      unfold textB at HN
      rw [ha, Bool.and_true] at HN
      clear hL ha
      by_cases z2 : s.size ≤ 2000
      · have HS : Hid (true = r) := Lib.hid (by rw [← HN]; simp [z2])
        have z3 : (s.size : Int) ≤ 2000 := by omega
        clear HN
        go_wp2_with fail
        go_ret
        exact ⟨ret_bool HS.out, rfl⟩
      · have HS : Hid (false = r) := Lib.hid (by rw [← HN]; simp [z2])
        have z3 : ¬ (s.size : Int) ≤ 2000 := by omega
        clear HN
        go_wp2_with fail
        go_ret
        exact ⟨ret_bool HS.out, rfl⟩
end Go.Proofs.YtedabholcldgbaaGreatDoor

/- The scanner's step: what it does, as plain data; a level more. -/
namespace Go.Proofs.YtedabholcldgbaaGreatDoor
open Go.RowKit Go.Deep

/-- What one step leaves: an error, or a position, the open lists (the outermost first), the innermost one, and whether a form ended just here. -/
inductive SR where
  | err (e : Int)
  | ok (pos : Nat) (O : List (List Fm)) (top : List Fm) (tight : Bool)
def closeS (pos : Nat) (O : List (List Fm)) (top : List Fm) : SR :=
  match O.getLast? with
  | none => .err 4
  | some l => .ok (pos + 1) O.dropLast (l ++ [.mk 3 0 ⟨#[]⟩ top]) false
def textS (s : ByteArray) (pos : Nat) (O : List (List Fm)) (top : List Fm) : SR :=
  match txtL (s.data.toList.drop (pos + 1)) with
  | .err c => .err c
  | .done bs n => if 2000 < (⟨bs.toArray⟩ : ByteArray).size then .err 4 else .ok (pos + n + 1) O (top ++ [.mk 2 0 ⟨bs.toArray⟩ []]) true
def tokS (s : ByteArray) (pos : Nat) (O : List (List Fm)) (top : List Fm) : SR :=
  match tokenR (spanB tokB s pos) with
  | .err c => .err c
  | .form k n t => .ok (pos + (spanB tokB s pos).size) O (top ++ [.mk k n t []]) true
def stepS (s : ByteArray) (pos : Nat) (b : Nat) (O : List (List Fm)) (top : List Fm) (tight : Bool) : SR :=
  if b = 59 then .ok (pos + (spanL nnlB (s.data.toList.drop pos)).length) O top false
  else if blankB (b : Int) = true then .ok (pos + 1) O top false
  else if b = 40 then .ok (pos + 1) (O ++ [top]) [] false
  else if b = 41 then closeS pos O top
  else if plainB (b : Int) = false then .err 4
  else if tight = true then .err 4
  else if b = 34 then textS s pos O top
  else tokS s pos O top
/-- The scanner in memory, as plain data. -/
def State (base : Nat) (w : World) (R : Nat) (s : ByteArray) (pos : Nat) (O : List (List Fm)) (top : List Fm) (tight : Bool) : Prop :=
  ∃ (ov : Value) (L : List Lv) (v : Value) (ts : List T), Scan base w R s pos ov (L ++ [(v, ts)]) tight ∧ (L.map fun p => p.2.map T.form) = O ∧ ts.map T.form = top
def StepEnd (base : Nat) (w w' : World) (R : Nat) (s : ByteArray) (r : SR) (e : Ending) : Prop :=
  match r with
  | .err c => e = .returned (.int .i64 c) ∧ Below base w w'
  | .ok q O top tight => e = .returned (.int .i64 0) ∧ State base w' R s q O top tight ∧ Below base w w'

section
variable {base : Nat} {W w1 : World} {R : Nat} {s : ByteArray} {pos : Nat} {ov : Value} {L : List Lv} {tight : Bool} {gg c : Nat}
theorem Scan.keepR (h : Scan base W R s pos ov L tight) (hgrow : W.grownBy w1 ov.ownBlock) : w1.heap[R]? = W.heap[R]? := by
  refine hgrow.block R (lt_of_block h.blk) fun e => ?_
  have hnd := h.nodup
  simp only [live, List.nodup_cons] at hnd
  exact hnd.1 (List.mem_append_left _ (by rw [← e]; simp))
theorem Scan.keepCells (h : Scan base W R s pos ov L tight) (hgrow : W.grownBy w1 ov.ownBlock) : w1.cell? ⟨R, 2, none⟩ = some ov ∧ w1.frozen? ⟨R, 2, none⟩ = false := by
  have := (h.keepR hgrow).trans h.blk
  constructor <;> simp [World.cell?, World.frozen?, this]
/-- A level more. -/
theorem Scan.push (h : Scan base W R s pos ov L tight) (hgrow : W.grownBy w1 ov.ownBlock) (hown : w1.ownsRow base 22 1 (.slice (some ⟨gg, 0, none⟩) (L.length + 1) c) (L.length + 1) (L.map (·.1) ++ [.slice none 0 0]))
    (hat : ov.ownBlock = some gg ∨ W.heap.size ≤ gg) :
    Scan base (w1.setCell ⟨R, 2, none⟩ (.slice (some ⟨gg, 0, none⟩) (L.length + 1) c)) R s pos (.slice (some ⟨gg, 0, none⟩) (L.length + 1) c) (L ++ [(.slice none 0 0, [])]) tight := by
  have hll := h.live_lt
  have hnd := h.nodup
  have hlv : live R ov L = R :: (ov.ownBlock.toList ++ L.flatMap fun p => p.1.ownBlock.toList) := rfl
  rw [hlv] at hnd
  have hR1 := (List.nodup_cons.1 hnd).1
  obtain ⟨n1, n2, n3⟩ := List.nodup_append.1 (List.nodup_cons.1 hnd).2
  have hgR : gg ≠ R := by
    intro e; subst e
    rcases hat with e | e
    · exact hR1 (List.mem_append_left _ (by rw [e]; simp))
    · have := (hll gg (by simp [live])).2; omega
  have hgL : gg ∉ L.flatMap fun p => p.1.ownBlock.toList := by
    intro hm
    rcases hat with e | e
    · exact n3 gg (by rw [e]; simp) gg hm rfl
    · have := (hll gg (by rw [hlv]; exact List.mem_cons_of_mem _ (List.mem_append_right _ hm))).2; omega
  have hlive : live R (.slice (some ⟨gg, 0, none⟩) (L.length + 1) c) (L ++ [(.slice none 0 0, [])]) = R :: ([gg] ++ L.flatMap fun p => p.1.ownBlock.toList) := by
    rw [live_snoc]; simp [live, Value.ownBlock]
  have hsame : ∀ b, b < W.heap.size → b ≠ R → some b ≠ ov.ownBlock → (w1.setCell ⟨R, 2, none⟩ (.slice (some ⟨gg, 0, none⟩) (L.length + 1) c)).heap[b]? = W.heap[b]? := fun b hb hR hne => by
    rw [Below.heap_setCell _ _ _ _ hR]; exact hgrow.block b hb hne
  have hblk : w1.heap[R]? = some (.cells #[.string s, .int .i64 pos, ov, .bool tight] 94 (0, 0)) := (h.keepR hgrow).trans h.blk
  refine ⟨heap_setCell_same w1 R 2 _ _ _ hblk, ?_, fun p hp => ?_, ?_, h.hR, by simpa using Nat.le_trans h.hw hgrow.size, fun p hp => ?_⟩
  · simp only [List.length_append, List.length_cons, List.length_nil, List.map_append, List.map_cons, List.map_nil]
    exact ownsRow_setCell_other hown (by simp [Value.ownBlock]; exact hgR) _
  · rw [hlive]
    rcases List.mem_append.1 hp with hp | hp
    · have hl := h.lvl p hp
      rw [hlv] at hl
      have hmem : ∀ k, p.1.ownBlock = some k → k ∈ L.flatMap fun p => p.1.ownBlock.toList := fun k hk => List.mem_flatMap.2 ⟨p, hp, by rw [hk]; simp⟩
      refine ⟨own_same hl.1 fun k hk => hsame k (hl.1.lt k hk).2 (fun e => hR1 (List.mem_append_right _ (e ▸ hmem k hk))) (fun e => n3 k (by rw [← e]; simp) k (hmem k hk) rfl), fun t ht => ?_⟩
      obtain ⟨hi, ho⟩ := hl.2 t ht
      refine ⟨hi.same _ (Nat.lt_succ_self _) fun b hb => hsame b (hi.lt hb) (fun e => ho b hb (by rw [e]; simp)) (fun e => ho b hb (List.mem_cons_of_mem _ (List.mem_append_left _ (by rw [← e]; simp)))), fun b hb hm => ?_⟩
      rcases List.mem_cons.1 hm with e | hm
      · exact ho b hb (by rw [e]; simp)
      · rcases List.mem_append.1 hm with hm | hm
        · have e : b = gg := by simpa using hm
          subst e
          rcases hat with e | e
          · exact ho b hb (List.mem_cons_of_mem _ (List.mem_append_left _ (by rw [e]; simp)))
          · have := hi.lt hb; omega
        · exact ho b hb (List.mem_cons_of_mem _ (List.mem_append_right _ hm))
    · have e : p = (.slice none 0 0, []) := by simpa using hp
      subst e
      exact ⟨World.ownsRow_nil _ _ _ _, fun t ht => by cases ht⟩
  · rw [hlive]
    refine List.nodup_cons.2 ⟨fun hm => ?_, List.nodup_append.2 ⟨by simp, n2, fun a ha b hb e => hgL (by
      have : a = gg := by simpa using ha
      rw [← this, e]; exact hb)⟩⟩
    rcases List.mem_append.1 hm with hm | hm
    · have e : R = gg := by simpa using hm
      exact hgR e.symm
    · exact hR1 (List.mem_append_right _ hm)
  · rcases List.mem_append.1 hp with hp | hp
    · exact h.hi p hp
    · have e : p = (.slice none 0 0, []) := by simpa using hp
      subst e
      intro t ht; cases ht
theorem Scan.pushBelow (h : Scan base W R s pos ov L tight) (hgrow : W.grownBy w1 ov.ownBlock) : Below base W w1 :=
  (Below.refl _ _).grown hgrow h.hw fun k hk => (h.live_lt k (by simp [live, hk])).1
/-- Behind a parenthesis: a place on, and a block laid. -/
theorem Scan.paren (h : Scan base W R s pos ov L tight) (n : Nat) (o : Obj) : Scan base ((((W.drewN n).setCell ⟨R, 1, none⟩ (.int .i64 ((pos : Int) + 1))).setCell ⟨R, 3, none⟩ (.bool false)).alloc o) R s (pos + 1) ov L false :=
  (((h.drewN n).setPos (pos + 1)).setTight false).below (bel1 _ _)
theorem below_paren (hR : base ≤ R) (hw : base ≤ W.heap.size) (n : Nat) (a b : Value) (o : Obj) : Below base W ((((W.drewN n).setCell ⟨R, 1, none⟩ a).setCell ⟨R, 3, none⟩ b).alloc o) :=
  (below_setR (below_setR (below_drewN (Below.refl _ _) n) hR _) hR _).alloc (by simpa using hw) o
theorem heap_paren (W : World) (R n : Nat) (a b : Value) (o : Obj) : ((((W.drewN n).setCell ⟨R, 1, none⟩ a).setCell ⟨R, 3, none⟩ b).alloc o).heap[W.heap.size]? = some o := by
  have h := heap_alloc_new (((W.drewN n).setCell ⟨R, 1, none⟩ a).setCell ⟨R, 3, none⟩ b) o
  rwa [show (((W.drewN n).setCell ⟨R, 1, none⟩ a).setCell ⟨R, 3, none⟩ b).heap.size = W.heap.size by simp] at h
end
end Go.Proofs.YtedabholcldgbaaGreatDoor

/- The scanner's step: the walk. -/
namespace Go.Proofs.YtedabholcldgbaaGreatDoor
open Go.RowKit Go.Deep

theorem State.drewN {base : Nat} {w : World} {R : Nat} {s : ByteArray} {pos : Nat} {O : List (List Fm)} {top : List Fm} {tight : Bool} (h : State base w R s pos O top tight) (n : Nat) : State base (w.drewN n) R s pos O top tight := by
  obtain ⟨ov, L, v, ts, hS, h1, h2⟩ := h
  exact ⟨ov, L, v, ts, hS.drewN n, h1, h2⟩
theorem Added.state {base : Nat} {w w' : World} {R : Nat} {s : ByteArray} {pos : Nat} {ov : Value} {L : List Lv} {ts : List T} {tight : Bool} (h : Added base w w' R s pos ov L ts tight) : State base w' R s pos (L.map fun p => p.2.map T.form) (ts.map T.form) tight := by
  obtain ⟨_, v', hS⟩ := h
  exact ⟨ov, L, v', ts, hS, rfl, rfl⟩
theorem leaf_form (k n : Int) (t : ByteArray) : (T.leaf k n t).form = .mk k n t [] := rfl

section
variable {base : Nat} {w : World} {R : Nat} {s : ByteArray} {pos : Nat} {O : List (List Fm)} {top : List Fm} {tight : Bool}
/-- The callees, met at the scanner as plain data. -/
theorem st_text (hS : State base w R s pos O top tight) (hpos : pos < s.size) (hs : s.size ≤ 60000) (h1 : O.length ≤ 60000) (h2 : top.length ≤ 60000) :
    Calls Tryz.prog 113 #[.pointer (some ⟨R, 0, none⟩)] w fun e w' => StepEnd base w w' R s (textS s pos O top) e := by
  obtain ⟨ov, L, v, ts, hS, rfl, rfl⟩ := hS
  refine (readText_any base w R s pos ov L v ts tight hS hpos hs (by simp at h1 h2; omega)).mono fun e w' h => ?_
  unfold TxtFin at h
  unfold textS
  cases ht : txtL (s.data.toList.drop (pos + 1)) with
  | err c => rw [ht] at h; exact h
  | done bs n =>
    rw [ht] at h
    simp only at h ⊢
    unfold TextEnd at h
    by_cases hd : 2000 < (⟨bs.toArray⟩ : ByteArray).size
    · rw [if_pos hd] at h ⊢; exact h
    · rw [if_neg hd] at h ⊢
      refine ⟨h.1, ?_, h.2.1⟩
      have := h.2.state
      simpa [leaf_form] using this
theorem st_tok (hS : State base w R s pos O top tight) (hpos : pos < s.size) (hs : s.size ≤ 60000) (h1 : O.length ≤ 60000) (h2 : top.length ≤ 60000) (hg : Glob w) (h6 : 8 ≤ base) :
    Calls Tryz.prog 114 #[.pointer (some ⟨R, 0, none⟩)] w fun e w' => StepEnd base w w' R s (tokS s pos O top) e := by
  obtain ⟨ov, L, v, ts, hS, rfl, rfl⟩ := hS
  refine (readToken_any base w R s pos ov L v ts tight hS (by omega) hs (by simp at h1 h2; omega) hg h6).mono fun e w' h => ?_
  unfold TokEnd at h
  unfold tokS
  cases ht : tokenR (spanB tokB s pos) with
  | err c => rw [ht] at h; exact h
  | form k n t =>
    rw [ht] at h
    refine ⟨h.1, ?_, h.2.1⟩
    have := h.2.state
    simpa [leaf_form] using this
theorem st_close (hS : State base w R s pos O top tight) (hpos : pos < s.size) (hs : s.size ≤ 60000) (h1 : O.length ≤ 60000) (h2 : top.length ≤ 60000) (h3 : ∀ l ∈ O, l.length ≤ 60000) :
    Calls Tryz.prog 111 #[.pointer (some ⟨R, 0, none⟩)] w fun e w' => StepEnd base w w' R s (closeS pos O top) e := by
  obtain ⟨ov, L, v, ts, hS, rfl, rfl⟩ := hS
  unfold closeS
  rcases List.eq_nil_or_concat L with rfl | ⟨L0, p, rfl⟩
  · exact (close_none base w R s pos ov v ts tight hS).mono fun e w' h => h
  · obtain ⟨v0, ts0⟩ := p
    have hts0 : ts0.length ≤ 60000 := by
      have := h3 (ts0.map T.form) (by simp)
      simpa using this
    refine (close_some base w R s pos ov L0 v0 v ts0 ts tight (by simpa using hS) hpos hs (by simp at h2; omega) (by omega) (by simp at h1; omega)).mono fun e w' h => ?_
    obtain ⟨he, ov', va, vc, ha⟩ := h
    have hst := ha.state
    have hf : (T.mk 3 0 ⟨#[]⟩ va vc ts).form = .mk 3 0 ⟨#[]⟩ (ts.map T.form) := by simp [T.form, T.forms_map]
    simp only [List.map_append, List.map_cons, List.map_nil, hf] at hst
    simp only [List.concat_eq_append, List.map_append, List.map_cons, List.map_nil, List.getLast?_append, List.getLast?_singleton, Option.some_or, List.dropLast_concat]
    exact ⟨he, hst, ha.1⟩
end

theorem StepEnd.mono {base : Nat} {w w1 w' : World} {R : Nat} {s : ByteArray} {r : SR} {e : Ending} (hb : Below base w w1) (h : StepEnd base w1 w' R s r e) : StepEnd base w w' R s r e := by
  unfold StepEnd at *
  cases r with
  | err c => exact ⟨h.1, hb.trans h.2⟩
  | ok q O top t => exact ⟨h.1, h.2.1, hb.trans h.2.2⟩
/-- The value that a step tells. -/
def SR.code : SR → Int
  | .err c => c
  | .ok _ _ _ _ => 0
theorem StepEnd.ret {base : Nat} {w w' : World} {R : Nat} {s : ByteArray} {r : SR} {e : Ending} (h : StepEnd base w w' R s r e) : e = .returned (.int .i64 r.code) := by
  unfold StepEnd at h
  cases r with
  | err c => exact h.1
  | ok q O top t => exact h.1

set_option maxHeartbeats 4000000 in
set_option maxRecDepth 100000 in
theorem step_any (base : Nat) (w : World) (R : Nat) (s : ByteArray) (pos : Nat) (O : List (List Fm)) (top : List Fm) (tight : Bool) (hpos : pos < s.size)
    (hS : State base w R s pos O top tight) (hs : s.size ≤ 60000) (h1 : O.length ≤ 60000) (h2 : top.length ≤ 60000) (h3 : ∀ l ∈ O, l.length ≤ 60000) (hg : Glob w) (h6 : 8 ≤ base) :
    Calls Tryz.prog 76 #[.pointer (some ⟨R, 0, none⟩)] w fun e w' => StepEnd base w w' R s (stepS s pos s[pos].toNat O top tight) e := by
  have hbase : base ≤ w.heap.size := by obtain ⟨_, _, _, _, h, _⟩ := hS; exact h.hw
  have hD : ∀ n, Below base w (w.drewN n) := fun n => below_drewN (Below.refl _ _) n
  have HT := Lib.hid fun n => (st_text (hS.drewN n) hpos hs h1 h2).mono fun e w' h => StepEnd.mono (hD n) h
  have HK := Lib.hid fun n => (st_tok (hS.drewN n) hpos hs h1 h2 (hg.below (hD n) h6) h6).mono fun e w' h => StepEnd.mono (hD n) h
  have HC := Lib.hid fun n => (st_close (hS.drewN n) hpos hs h1 h2 h3).mono fun e w' h => StepEnd.mono (hD n) h
  have HDD := Lib.hid hD
  obtain ⟨ov, L, v, ts, hSc, hO, htop⟩ := hS
  obtain ⟨c0, c1, c2, c3, f1, f2, f3⟩ := hSc.cells
  have H := Lib.hid hSc
  have hbR := hSc.hR
  have HO := Lib.hid hO
  have HTop := Lib.hid htop
  have hRw := lt_of_block hSc.blk
  have hq2 : (0 : Int) ≤ (pos : Int) := by omega
  have hq3 : (pos : Int) < (s.size : Int) := by omega
  obtain ⟨r, hr⟩ : ∃ r, stepS s pos s[pos].toNat O top tight = r := ⟨_, rfl⟩
  rw [hr]
  have HBL := blank_ok (s[pos].toNat : Int)
  have HPL := plain_ok (s[pos].toNat : Int)
  clear hSc hO htop hg h3 hD
  have HBL0 := Lib.hid HBL
  have HPL0 := Lib.hid HPL
  clear HBL HPL
  by_cases b59 : s[pos].toNat = 59
  · obtain rfl : SR.ok (pos + (spanL nnlB (s.data.toList.drop pos)).length) O top false = r := by rw [← hr, stepS, if_pos b59]
    have HSK : Hid (∀ n, Calls Tryz.prog 110 #[.pointer (some ⟨R, 0, none⟩), .int .u8 (s[pos].toNat : Int)] (w.drewN n) fun e w' => e = .returned (.tuple #[]) ∧ Moved base (w.drewN n) w' R s ov (L ++ [(v, ts)]) (pos + (spanL nnlB (s.data.toList.drop pos)).length)) :=
      Lib.hid fun n => by rw [show (s[pos].toNat : Int) = 59 by omega]; exact skip_comment base (w.drewN n) R s pos ov (L ++ [(v, ts)]) tight (H.out.drewN n) (by omega) hs
    have HBL := HBL0.out
    rw [show blankB (s[pos].toNat : Int) = false by rw [b59]; rfl] at HBL
    have HBL := Lib.hid HBL
    have g59 : ((s[pos].toNat : Int) == 59) = true := by simp; omega
    clear hr b59
    go_enter Tryz.func76, Tryz.ntmps76
    go_wp2_with fail
    go_quiet (fail)
    go_wp2_with (first
      | (go_at_call 109; refine (HBL.out _).mono ?_; rintro e w2 ⟨rfl, rfl⟩)
      | (go_at_call 110; refine (HSK.out _).mono ?_; rintro e w2 ⟨rfl, hM⟩; have HM := Lib.hid hM; clear hM))
    go_ret
    exact ⟨rfl, ⟨ov, L, v, ts, HM.out.1, HO.out, HTop.out⟩, (HDD.out _).trans HM.out.2.1⟩
  · have g59 : ((s[pos].toNat : Int) == 59) = false := by simp; omega
    cases hbl : blankB (s[pos].toNat : Int) with
    | true =>
      obtain rfl : SR.ok (pos + 1) O top false = r := by rw [← hr, stepS, if_neg b59, if_pos hbl]
      have HSK := Lib.hid fun n => skip_blank base (w.drewN n) R s pos ov (L ++ [(v, ts)]) tight (s[pos].toNat : Int) (H.out.drewN n) (by omega) hs (by omega)
      have HBL := HBL0.out
      rw [hbl] at HBL
      have HBL := Lib.hid HBL
      clear hr b59 hbl
      go_enter Tryz.func76, Tryz.ntmps76
      go_wp2_with fail
      go_quiet (fail)
      go_wp2_with (first
        | (go_at_call 109; refine (HBL.out _).mono ?_; rintro e w2 ⟨rfl, rfl⟩)
        | (go_at_call 110; refine (HSK.out _).mono ?_; rintro e w2 ⟨rfl, hM⟩; have HM := Lib.hid hM; clear hM))
      go_ret
      exact ⟨rfl, ⟨ov, L, v, ts, HM.out.1, HO.out, HTop.out⟩, (HDD.out _).trans HM.out.2.1⟩
    | false =>
      have HBL := HBL0.out
      rw [hbl] at HBL
      have HBL := Lib.hid HBL
      have hnb : ¬ blankB (s[pos].toNat : Int) = true := by rw [hbl]; simp
      by_cases b40 : s[pos].toNat = 40
      · obtain rfl : SR.ok (pos + 1) (O ++ [top]) [] false = r := by rw [← hr, stepS, if_neg b59, if_neg hnb, if_pos b40]
        have g40 : ((s[pos].toNat : Int) == 40) = true := by simp; omega
        obtain ⟨i0, hi0, hz0, hz1, hz2⟩ := info_parts info22
        have hlenL : (L ++ [(v, ts)]).length ≤ 60001 := by have := HO.out; rw [← this] at h1; simp at h1 ⊢; omega
        obtain ⟨L', hL'⟩ : ∃ L', L ++ [(v, ts)] = L' := ⟨_, rfl⟩
        have hst : (L'.map fun p => p.2.map T.form) = O ++ [top] := by rw [← hL']; have e1 := HO.out; have e2 := HTop.out; simp [e1, e2]
        have HH := H.out
        rw [hL'] at HH hlenL
        have HSS := Lib.hid fun n o => HH.paren n o
        have HST := Lib.hid hst
        clear hr b59 hbl hnb b40 hst HH hL' H
        go_enter Tryz.func76, Tryz.ntmps76
        go_wp2_with fail
        go_quiet (fail)
        go_wp2_with (first
          | (go_at_call 109; refine (HBL.out _).mono ?_; rintro e w2 ⟨rfl, rfl⟩)
          | (at_builtin; refine wpList_append_lies _ rfl _ _ _ rfl base 22 i0 _ 1 24 Tryz.underlying92 hi0 hz0 hz1 hz2 rfl (by omega) ov L'.length (L'.map (·.1)) (by rfl) (HSS.out _ _).rows ⟨w.heap.size, 0, none⟩ 1 1 [.slice none 0 0] (by rfl) (by rfl) (World.news_of_block (cs := #[.slice none 0 0]) (t := 22) (fr := (0, 0)) (heap_paren w R _ _ _ _)) (by simp [Value.oneCell']) (by omega) (by unfold maxLen; omega) (by omega) (by simp; omega) (w.heap.size + 1) (by simp) ?_; intro gg cap1 w1 hown1 hgrow hat hlt1; have HP := Lib.hid ((HSS.out _ _).push hgrow hown1 (hat.imp id (fun e => by rw [e]; simp))); have HB1 := Lib.hid ((below_paren hbR hbase _ _ _ _).trans ((HSS.out _ _).pushBelow hgrow)); obtain ⟨k1, k2⟩ := (HSS.out _ _).keepCells hgrow; clear hown1 hgrow hat hlt1))
        go_ret
        exact ⟨rfl, ⟨_, L', _, [], HP.out, HST.out, rfl⟩, below_setR HB1.out hbR _⟩
      · have g40 : ((s[pos].toNat : Int) == 40) = false := by simp; omega
        by_cases b41 : s[pos].toNat = 41
        · have g41 : ((s[pos].toNat : Int) == 41) = true := by simp; omega
          obtain rfl : closeS pos O top = r := by rw [← hr, stepS, if_neg b59, if_neg hnb, if_neg b40, if_pos b41]
          have HCC := Lib.hid fun n => (HC.out n).mono fun e w' h => (⟨h.ret, h⟩ : _ ∧ _)
          clear hr b59 hbl hnb b40 b41
          go_enter Tryz.func76, Tryz.ntmps76
          go_wp2_with fail
          go_quiet (fail)
          go_wp2_with (first
            | (go_at_call 109; refine (HBL.out _).mono ?_; rintro e w2 ⟨rfl, rfl⟩)
            | (go_at_call 111; refine (HCC.out _).mono ?_; rintro e w2 ⟨rfl, hM⟩; have HM := Lib.hid hM; clear hM))
          go_ret
          exact HM.out
        · have g41 : ((s[pos].toNat : Int) == 41) = false := by simp; omega
          cases hpl : plainB (s[pos].toNat : Int) with
          | false =>
            obtain rfl : SR.err 4 = r := by rw [← hr, stepS, if_neg b59, if_neg hnb, if_neg b40, if_neg b41, if_pos hpl]
            have HPL := HPL0.out
            rw [hpl] at HPL
            have HPL := Lib.hid HPL
            clear hr b59 hbl hnb b40 b41 hpl
            go_enter Tryz.func76, Tryz.ntmps76
            go_wp2_with fail
            go_quiet (fail)
            go_wp2_with (first
              | (go_at_call 109; refine (HBL.out _).mono ?_; rintro e w2 ⟨rfl, rfl⟩)
              | (go_at_call 112; refine (HPL.out _).mono ?_; rintro e w2 ⟨rfl, rfl⟩))
            go_ret
            exact ⟨rfl, HDD.out _⟩
          | true =>
            have HPL := HPL0.out
            rw [hpl] at HPL
            have HPL := Lib.hid HPL
            have hnp : ¬ plainB (s[pos].toNat : Int) = false := by rw [hpl]; simp
            cases tight with
            | true =>
              obtain rfl : SR.err 4 = r := by rw [← hr, stepS, if_neg b59, if_neg hnb, if_neg b40, if_neg b41, if_neg hnp, if_pos rfl]
              clear hr b59 hbl hnb b40 b41 hpl hnp
              go_enter Tryz.func76, Tryz.ntmps76
              go_wp2_with fail
              go_quiet (fail)
              go_wp2_with (first
                | (go_at_call 109; refine (HBL.out _).mono ?_; rintro e w2 ⟨rfl, rfl⟩)
                | (go_at_call 112; refine (HPL.out _).mono ?_; rintro e w2 ⟨rfl, rfl⟩))
              go_ret
              exact ⟨rfl, HDD.out _⟩
            | false =>
              by_cases b34 : s[pos].toNat = 34
              · have g34 : ((s[pos].toNat : Int) == 34) = true := by simp; omega
                obtain rfl : textS s pos O top = r := by rw [← hr, stepS, if_neg b59, if_neg hnb, if_neg b40, if_neg b41, if_neg hnp, if_neg (by simp), if_pos b34]
                have HTT := Lib.hid fun n => (HT.out n).mono fun e w' h => (⟨h.ret, h⟩ : _ ∧ _)
                clear hr b59 hbl hnb b40 b41 hpl hnp b34
                go_enter Tryz.func76, Tryz.ntmps76
                go_wp2_with fail
                go_quiet (fail)
                go_wp2_with (first
                  | (go_at_call 109; refine (HBL.out _).mono ?_; rintro e w2 ⟨rfl, rfl⟩)
                  | (go_at_call 112; refine (HPL.out _).mono ?_; rintro e w2 ⟨rfl, rfl⟩)
                  | (go_at_call 113; refine (HTT.out _).mono ?_; rintro e w2 ⟨rfl, hM⟩; have HM := Lib.hid hM; clear hM))
                go_ret
                exact HM.out
              · have g34 : ((s[pos].toNat : Int) == 34) = false := by simp; omega
                obtain rfl : tokS s pos O top = r := by rw [← hr, stepS, if_neg b59, if_neg hnb, if_neg b40, if_neg b41, if_neg hnp, if_neg (by simp), if_neg b34]
                have HTT := Lib.hid fun n => (HK.out n).mono fun e w' h => (⟨h.ret, h⟩ : _ ∧ _)
                clear hr b59 hbl hnb b40 b41 hpl hnp b34
                go_enter Tryz.func76, Tryz.ntmps76
                go_wp2_with fail
                go_quiet (fail)
                go_wp2_with (first
                  | (go_at_call 109; refine (HBL.out _).mono ?_; rintro e w2 ⟨rfl, rfl⟩)
                  | (go_at_call 112; refine (HPL.out _).mono ?_; rintro e w2 ⟨rfl, rfl⟩)
                  | (go_at_call 114; refine (HTT.out _).mono ?_; rintro e w2 ⟨rfl, hM⟩; have HM := Lib.hid hM; clear hM))
                go_ret
                exact HM.out
end Go.Proofs.YtedabholcldgbaaGreatDoor

/- Reading, as plain data; what one step leaves is bounded by the place. -/
namespace Go.Proofs.YtedabholcldgbaaGreatDoor
open Go.RowKit Go.Deep

theorem szL_append (a b : List Fm) : szL (a ++ b) = szL a + szL b := by
  induction a with
  | nil => simp [szL]
  | cons x a ih => simp only [List.cons_append, szL, ih]; omega
theorem szF_leaf (k n : Int) (t : ByteArray) : szF (.mk k n t []) = 1 := by
  rw [szF_eq]; unfold Fm.kids; by_cases h : k = 3 <;> simp [Fm.kd, Fm.ks, h, szL]
theorem szF_list (n : Int) (t : ByteArray) (l : List Fm) : szF (.mk 3 n t l) = 1 + szL l := by
  rw [szF_eq]; unfold Fm.kids; simp [Fm.kd, Fm.ks]
theorem szF_pos (f : Fm) : 1 ≤ szF f := by rw [szF_eq]; omega
theorem szL_len (l : List Fm) : l.length ≤ szL l := by
  induction l with
  | nil => simp [szL]
  | cons f l ih => have := szF_pos f; simp only [List.length_cons, szL]; omega
def szO (O : List (List Fm)) : Nat := (O.map fun l => 1 + szL l).sum
theorem szO_append (a b : List (List Fm)) : szO (a ++ b) = szO a + szO b := by simp [szO]
theorem szO_one (l : List Fm) : szO [l] = 1 + szL l := by simp [szO]
/-- All that was read, and the open lists. -/
def tot (O : List (List Fm)) (top : List Fm) : Nat := szO O + szL top
theorem szO_mem {O : List (List Fm)} {l : List Fm} (h : l ∈ O) : 1 + szL l ≤ szO O := by
  induction O with
  | nil => cases h
  | cons a O ih =>
    have e : szO (a :: O) = 1 + szL a + szO O := by simp [szO]
    rw [e]
    rcases List.mem_cons.1 h with rfl | h
    · omega
    · have := ih h; omega
theorem szO_len (O : List (List Fm)) : O.length ≤ szO O := by
  induction O with
  | nil => simp [szO]
  | cons a O ih =>
    have e : szO (a :: O) = 1 + szL a + szO O := by simp [szO]
    rw [e]; simp only [List.length_cons]; omega
theorem tot_bounds {O : List (List Fm)} {top : List Fm} {n : Nat} (h : tot O top ≤ n) : O.length ≤ n ∧ top.length ≤ n ∧ ∀ l ∈ O, l.length ≤ n := by
  unfold tot at h
  refine ⟨by have := szO_len O; omega, by have := szL_len top; omega, fun l hl => by have := szO_mem hl; have := szL_len l; omega⟩

theorem txtL_used : ∀ (n : Nat) (l : List UInt8), l.length ≤ n → ∀ {bs : List UInt8} {k : Nat}, txtL l = .done bs k → 1 ≤ k ∧ k ≤ l.length := by
  intro n
  induction n with
  | zero =>
    intro l hl bs k h
    cases l with
    | nil => rw [txtL] at h; cases h
    | cons b r => simp at hl
  | succ n ih =>
    intro l hl bs k h
    cases l with
    | nil => rw [txtL] at h; cases h
    | cons b r =>
      rw [txtL_cons] at h
      have pre : ∀ (t : TX) (a : List UInt8) (j : Nat), t.pre a j = .done bs k → ∃ bs' k', t = .done bs' k' ∧ k = j + k' := by
        intro t a j ht
        cases t with
        | err e => cases ht
        | done bs' k' => simp only [TX.pre, TX.done.injEq] at ht; exact ⟨bs', k', rfl, ht.2.symm⟩
      simp only [List.length_cons] at hl ⊢
      split at h
      · cases h; omega
      · split at h
        · cases r with
          | nil => cases h
          | cons c r' =>
            simp only at h
            split at h
            · obtain ⟨bs', k', ht, rfl⟩ := pre _ _ _ h
              simp only [List.length_cons] at hl ⊢
              have := ih r' (by omega) ht
              omega
            · cases h
        · split at h
          · obtain ⟨bs', k', ht, rfl⟩ := pre _ _ _ h
            have := ih r (by omega) ht
            omega
          · cases h
theorem span_le (p : Int → Bool) (s : ByteArray) (pos : Nat) (h : pos ≤ s.size) : pos + (spanL p (s.data.toList.drop pos)).length ≤ s.size := by
  have h1 : (spanL p (s.data.toList.drop pos)).length ≤ (s.data.toList.drop pos).length := List.Sublist.length_le (List.takeWhile_sublist _)
  have h2 : s.data.toList.length = s.size := by simp
  rw [List.length_drop] at h1
  omega
theorem span_pos (p : Int → Bool) (s : ByteArray) (pos : Nat) (h : pos < s.size) (hp : p (s[pos].toNat : Int) = true) : 1 ≤ (spanL p (s.data.toList.drop pos)).length := by
  rw [drop_byte h]
  unfold spanL
  rw [List.takeWhile_cons, if_pos hp]
  simp
theorem stepS_bound {s : ByteArray} {pos : Nat} {O : List (List Fm)} {top : List Fm} {tight : Bool} (hpos : pos < s.size) (ht : tot O top ≤ pos) {q : Nat} {O' : List (List Fm)} {top' : List Fm} {t' : Bool}
    (h : stepS s pos s[pos].toNat O top tight = .ok q O' top' t') : pos < q ∧ q ≤ s.size ∧ tot O' top' ≤ q := by
  unfold stepS at h
  have one : ∀ f : Fm, szL [f] = szF f := fun f => by simp [szL]
  split at h
  · rename_i hb
    injection h with e1 e2 e3 e4
    subst e1 e2 e3
    have h1 := span_le nnlB s pos (by omega)
    have h2 := span_pos nnlB s pos hpos (by rw [hb]; rfl)
    exact ⟨by omega, h1, by omega⟩
  · split at h
    · injection h with e1 e2 e3 e4
      subst e1 e2 e3
      exact ⟨by omega, by omega, by omega⟩
    · split at h
      · injection h with e1 e2 e3 e4
        subst e1 e2 e3
        refine ⟨by omega, by omega, ?_⟩
        unfold tot at *
        rw [szO_append, szO_one]; simp only [szL]; omega
      · split at h
        · unfold closeS at h
          split at h
          · cases h
          · rename_i l hl
            injection h with e1 e2 e3 e4
            subst e1 e2 e3
            have hO : O = O.dropLast ++ [l] := by
              rcases List.eq_nil_or_concat O with rfl | ⟨O0, l0, rfl⟩
              · cases hl
              · simp at hl; subst hl; simp
            refine ⟨by omega, by omega, ?_⟩
            unfold tot at *
            rw [hO, szO_append, szO_one] at ht
            rw [szL_append, one, szF_list]
            omega
        · split at h
          · cases h
          · split at h
            · cases h
            · rename_i hb59 hbl hb40 hb41 hpl htight
              split at h
              · unfold textS at h
                split at h
                · cases h
                · rename_i bs n htx
                  split at h
                  · cases h
                  · injection h with e1 e2 e3 e4
                    subst e1 e2 e3
                    have hu := txtL_used _ _ (Nat.le_refl _) htx
                    have hl : (s.data.toList.drop (pos + 1)).length = s.size - (pos + 1) := by simp
                    rw [hl] at hu
                    refine ⟨by omega, by omega, ?_⟩
                    unfold tot at *
                    rw [szL_append, one, szF_leaf]; omega
              · rename_i hb34
                unfold tokS at h
                split at h
                · cases h
                · rename_i k n t htk
                  injection h with e1 e2 e3 e4
                  subst e1 e2 e3
                  have h1 := span_le tokB s pos (by omega)
                  have h2 := span_pos tokB s pos hpos (by
                    have hp : plainB (s[pos].toNat : Int) = true := by cases h : plainB (s[pos].toNat : Int) with
                                                                       | true => rfl
                                                                       | false => exact absurd h hpl
                    unfold tokB; rw [hp]; simp; omega)
                  rw [← spanB_size] at h1 h2
                  refine ⟨by omega, h1, ?_⟩
                  unfold tot at *
                  rw [szL_append, one, szF_leaf]; omega

inductive RR where
  | err (e : Int)
  | ok (O : List (List Fm)) (top : List Fm)
/-- The steps, one behind the other. -/
def loopS (s : ByteArray) : Nat → Nat → List (List Fm) → List Fm → Bool → RR
  | 0, _, _, _, _ => .err 0
  | k + 1, pos, O, top, tight => if h : pos < s.size then (match stepS s pos s[pos].toNat O top tight with
      | .err c => .err c
      | .ok q O' top' t' => loopS s k q O' top' t') else .ok O top
inductive RD where
  | err (e : Int)
  | ok (fs : List Fm)
theorem loopS_err {s : ByteArray} {k pos : Nat} {O : List (List Fm)} {top : List Fm} {tight : Bool} (h : pos < s.size) {c : Int} (hc : stepS s pos s[pos].toNat O top tight = .err c) : loopS s (k + 1) pos O top tight = .err c := by
  rw [loopS, dif_pos h, hc]
theorem loopS_ok {s : ByteArray} {k pos : Nat} {O : List (List Fm)} {top : List Fm} {tight : Bool} (h : pos < s.size) {q : Nat} {O' : List (List Fm)} {top' : List Fm} {t' : Bool} (hc : stepS s pos s[pos].toNat O top tight = .ok q O' top' t') :
    loopS s (k + 1) pos O top tight = loopS s k q O' top' t' := by
  rw [loopS, dif_pos h, hc]
theorem loopS_end {s : ByteArray} {k pos : Nat} {O : List (List Fm)} {top : List Fm} {tight : Bool} (h : ¬ pos < s.size) : loopS s (k + 1) pos O top tight = .ok O top := by
  rw [loopS, dif_neg h]
def readDone : RR → RD
  | .err c => .err c
  | .ok O top => if O ≠ [] then .err 12 else if top.all validF = true then .ok top else .err 2
/-- What a text is read as. -/
def readR (s : ByteArray) : RD :=
  if 60000 < s.size then .err 2 else readDone (loopS s (s.size + 1) 0 [] [] false)
theorem stepS_err {s : ByteArray} {pos b : Nat} {O : List (List Fm)} {top : List Fm} {tight : Bool} {c : Int} (h : stepS s pos b O top tight = .err c) : c = 4 ∨ c = 5 ∨ c = 12 := by
  unfold stepS at h
  have htx : ∀ (n : Nat) (l : List UInt8), l.length ≤ n → ∀ c, txtL l = .err c → c = 4 ∨ c = 5 ∨ c = 12 := by
    intro n
    induction n with
    | zero =>
      intro l hl c h
      cases l with
      | nil => rw [txtL] at h; cases h; exact .inr (.inr rfl)
      | cons b r => simp at hl
    | succ n ih =>
      intro l hl c h
      have pre : ∀ (t : TX) (a : List UInt8) (j : Nat), t.pre a j = .err c → t = .err c := by
        intro t a j ht
        cases t with
        | err e => exact ht
        | done bs' k' => cases ht
      cases l with
      | nil => rw [txtL] at h; cases h; exact .inr (.inr rfl)
      | cons b r =>
        rw [txtL_cons] at h
        simp only [List.length_cons] at hl
        split at h
        · cases h
        · split at h
          · cases r with
            | nil => cases h; exact .inr (.inr rfl)
            | cons c' r' =>
              simp only at h
              split at h
              · simp only [List.length_cons] at hl
                exact ih r' (by omega) _ (pre _ _ _ h)
              · cases h; exact .inl rfl
          · split at h
            · exact ih r (by omega) _ (pre _ _ _ h)
            · cases h; exact .inl rfl
  split at h
  · cases h
  · split at h
    · cases h
    · split at h
      · cases h
      · split at h
        · unfold closeS at h
          split at h
          · cases h; exact .inl rfl
          · cases h
        · split at h
          · cases h; exact .inl rfl
          · split at h
            · cases h; exact .inl rfl
            · split at h
              · unfold textS at h
                split at h
                · rename_i c' hc
                  injection h with e
                  subst e
                  exact htx _ _ (Nat.le_refl _) _ hc
                · split at h
                  · cases h; exact .inl rfl
                  · cases h
              · unfold tokS at h
                split at h
                · rename_i c' hc
                  injection h with e
                  subst e
                  rcases tokenR_err hc with e | e
                  · exact .inl e
                  · exact .inr (.inl e)
                · cases h
end Go.Proofs.YtedabholcldgbaaGreatDoor

/- all: whether all forms of a list are valid. -/
namespace Go.Proofs.YtedabholcldgbaaGreatDoor
open Go.RowKit Go.Deep

theorem all1_any (t : T) (P : Nat) (w : World) (hin : In w t) (hb : szF t.form ≤ 4611686018427387903) (hc : w.cell? ⟨P, 0, none⟩ = some (.func (.func 30) #[] #[])) :
    Calls Tryz.prog 116 #[t.val, .pointer (some ⟨P, 0, none⟩)] w fun e w' => e = .returned (.bool (!validF t.form)) ∧ Below w.heap.size w w' := by
  have HV := Lib.hid fun w' g => valid_any t w' g hb
  have hP := World.block_lt_of_cell? _ _ hc
  go_enter Tryz.func116, Tryz.ntmps116
  go_wp2_with (go_at_call 30; refine (HV.out _ (hin.alloc _)).mono ?_; rintro e w2 ⟨rfl, hB⟩)
  go_ret
  exact ⟨rfl, up (bel1 _ _) hB⟩

def ValTo (ts : List T) (k : Nat) : Prop := ∀ j (h : j < ts.length), j < k → validF ts[j].form = true
theorem ValTo.all {ts : List T} {k : Nat} (h : ValTo ts k) (hk : ts.length ≤ k) : (ts.map T.form).all validF = true := by
  rw [List.all_eq_true]
  intro f hf
  obtain ⟨t, ht, rfl⟩ := List.mem_map.1 hf
  obtain ⟨j, hj, rfl⟩ := List.getElem_of_mem ht
  exact h j hj (by omega)
theorem ValTo.not {ts : List T} {k : Nat} (hk : k < ts.length) (hv : validF ts[k].form = false) : (ts.map T.form).all validF = false := by
  rw [List.all_eq_false]
  exact ⟨ts[k].form, List.mem_map_of_mem (List.getElem_mem hk), by rw [hv]; simp⟩
theorem ValTo.step {ts : List T} {k : Nat} (h : ValTo ts k) (hk : k < ts.length) (hv : validF ts[k].form = true) : ValTo ts (k + 1) := by
  intro j hj hlt
  by_cases e : j = k
  · subst e; exact hv
  · exact h j hj (by omega)
/-- The first form that is not valid, or -1. -/
def badIdx (ts : List T) : Int := if (ts.map T.form).all validF = true then -1 else (ts.findIdx fun t => !validF t.form : Nat)
theorem badIdx_at {ts : List T} {k : Nat} (h : ValTo ts k) (hk : k < ts.length) (hv : validF ts[k].form = false) : badIdx ts = (k : Int) := by
  unfold badIdx
  rw [if_neg (by rw [ValTo.not hk hv]; simp)]
  have : ts.findIdx (fun t => !validF t.form) = k := by
    rw [List.findIdx_eq hk]
    exact ⟨by simp [hv], fun j hj => by have := h j (by omega) hj; simp [this]⟩
  rw [this]
theorem badIdx_none {ts : List T} {k : Nat} (h : ValTo ts k) (hk : ts.length ≤ k) : badIdx ts = -1 := by
  unfold badIdx; rw [if_pos (h.all hk)]

set_option maxHeartbeats 1000000 in
theorem index_any (ts : List T) (va : Option Addr) (vc P : Nat) (w : World) (hl : ts.length ≤ 1000000) (hin : InL w va 0 ts) (hb : szL (ts.map T.form) ≤ 1000000) (hc : w.cell? ⟨P, 0, none⟩ = some (.func (.func 30) #[] #[])) :
    Calls Tryz.prog 148 #[.slice va ts.length vc, .func (.func 116) #[] #[.pointer (some ⟨P, 0, none⟩)]] w fun e w' => e = .returned (.int .i64 (badIdx ts)) ∧ Below w.heap.size w w' := by
  have hP := World.block_lt_of_cell? _ _ hc
  have HC := Lib.hid hc
  have HI := Lib.hid hin
  clear hc hin
  go_enter Tryz.func148, Tryz.ntmps148
  go_wp2_with fail
  go_loopg [8] (ts.length) (fun m i wr => ∃ k : Nat, k ≤ ts.length ∧ m = ts.length - k ∧ i = .int .i64 k ∧ ValTo ts k ∧ Below w.heap.size w wr)
  case atStart => exact ⟨0, by omega, rfl, rfl, fun j _ h => absurd h (by omega), Below.refl _ _⟩
  case round =>
    obtain ⟨k, hk, rfl, rfl, hV, hB⟩ := hrel
    have HB := Lib.hid hB
    by_cases hlt : k < ts.length
    · obtain ⟨⟨b, o, rfl, hx0, hx1, hx2, hx3⟩, hink⟩ := (HI.out.below hB).at k hlt
      have lb : b < wr.heap.size := World.block_lt_of_cell? _ _ hx0
      have hsz : szF ts[k].form ≤ 4611686018427387903 := by
        have := szL_le (l := ts.map T.form) (f := ts[k].form) (List.mem_map_of_mem (List.getElem_mem hlt)); omega
      have HA := Lib.hid (all1_any ts[k] P wr hink hsz ((HB.out.cell (p := ⟨P, 0, none⟩) hP).trans HC.out))
      cases hv : validF ts[k].form with
      | true =>
        rw [hv] at HA
        have HS := Lib.hid (hV.step hlt hv)
        clear hv hV hB
        go_wp2_with (go_at_call 116; refine HA.out.mono ?_; rintro e w2 ⟨rfl, hB2⟩; have HB2 := Lib.hid hB2; clear hB2)
        go_roundg (ts.length - (k + 1))
        case measure => omega
        case rel => exact ⟨k + 1, by omega, rfl, by go_num, HS.out, upB HB.out HB2.out (Nat.le_refl _)⟩
      | false =>
        rw [hv] at HA
        have HS := Lib.hid (badIdx_at hV hlt hv)
        clear hv hV hB
        go_wp2_with (go_at_call 116; refine HA.out.mono ?_; rintro e w2 ⟨rfl, hB2⟩; have HB2 := Lib.hid hB2; clear hB2)
        go_ret
        exact ⟨ret_int HS.out.symm, upB HB.out HB2.out (Nat.le_refl _)⟩
    · have HS := Lib.hid (badIdx_none hV (by omega))
      clear hV hB
      go_wp2_with fail
      go_ret
      exact ⟨ret_int HS.out.symm, HB.out⟩
theorem contains_any (ts : List T) (va : Option Addr) (vc P : Nat) (w : World) (hl : ts.length ≤ 1000000) (hin : InL w va 0 ts) (hb : szL (ts.map T.form) ≤ 1000000) (hc : w.cell? ⟨P, 0, none⟩ = some (.func (.func 30) #[] #[])) :
    Calls Tryz.prog 115 #[.slice va ts.length vc, .func (.func 116) #[] #[.pointer (some ⟨P, 0, none⟩)]] w fun e w' => e = .returned (.bool (!(ts.map T.form).all validF)) ∧ Below w.heap.size w w' := by
  have HX := index_any ts va vc P w hl hin hb hc
  clear hin hc
  cases ha : (ts.map T.form).all validF with
  | true =>
    rw [show badIdx ts = -1 by unfold badIdx; rw [if_pos ha]] at HX
    have HX := Lib.hid HX
    clear ha
    go_enter Tryz.func115, Tryz.ntmps115
    go_wp2_with (go_at_call 148; refine HX.out.mono ?_; rintro e w2 ⟨rfl, hB⟩)
    go_ret
    exact ⟨rfl, hB⟩
  | false =>
    obtain ⟨n, hn⟩ : ∃ n : Nat, badIdx ts = (n : Int) := ⟨_, by unfold badIdx; rw [if_neg (by rw [ha]; simp)]⟩
    rw [hn] at HX
    have HX := Lib.hid HX
    have hn0 : (0 : Int) ≤ (n : Int) := by omega
    clear ha hn
    go_enter Tryz.func115, Tryz.ntmps115
    go_wp2_with (go_at_call 148; refine HX.out.mono ?_; rintro e w2 ⟨rfl, hB⟩)
    go_ret
    exact ⟨rfl, hB⟩
theorem allValid_any (ts : List T) (va : Option Addr) (vc : Nat) (w : World) (hl : ts.length ≤ 1000000) (hin : InL w va 0 ts) (hb : szL (ts.map T.form) ≤ 1000000) :
    Calls Tryz.prog 77 #[.slice va ts.length vc, .func (.func 30) #[] #[]] w fun e w' => e = .returned (.bool ((ts.map T.form).all validF)) ∧ Below w.heap.size w w' := by
  have HX := Lib.hid fun w' g1 g2 => contains_any ts va vc w.heap.size w' hl g1 hb g2
  obtain ⟨r, hr⟩ : ∃ r, (ts.map T.form).all validF = r := ⟨_, rfl⟩
  rw [hr] at HX ⊢
  clear hr
  have HI := Lib.hid hin
  clear hin
  go_enter Tryz.func77, Tryz.ntmps77
  go_wp2_with (go_at_call 115; refine (HX.out _ (HI.out.below (bel1 _ _)) (by simp)).mono ?_; rintro e w2 ⟨rfl, hB⟩)
  go_ret
  exact ⟨ret_bool (by simp), up (bel1 _ _) hB⟩
end Go.Proofs.YtedabholcldgbaaGreatDoor

/- reader.Read. -/
namespace Go.Proofs.YtedabholcldgbaaGreatDoor
open Go.RowKit Go.Deep

theorem heap_new2 (w : World) (o1 o2 : Obj) : ((w.alloc o1).alloc o2).heap[w.heap.size + 1]? = some o2 := by
  have h := heap_alloc_new (w.alloc o1) o2
  rwa [show (w.alloc o1).heap.size = w.heap.size + 1 by simp] at h
theorem Scan.start (w : World) (s : ByteArray) :
    Scan w.heap.size ((w.alloc (.cells #[.slice none 0 0] 22)).alloc (.cells #[.string s, .int .i64 0, .slice (some ⟨w.heap.size, 0, none⟩) 1 1, .bool false] 94)) (w.heap.size + 1) s 0 (.slice (some ⟨w.heap.size, 0, none⟩) 1 1) [(.slice none 0 0, [])] false := by
  refine ⟨heap_new2 _ _ _, ?_, fun p hp => ?_, by simp [live, Value.ownBlock], by omega, by simp; omega, fun p hp => ?_⟩
  · exact ((World.ownsRow_lit w #[.slice none 0 0] 1 (base := w.heap.size) (e := 22) (size := 1) (Nat.le_refl _) (by unfold maxLen; omega) rfl)).alloc _
  · have e : p = (.slice none 0 0, []) := by simpa using hp
    subst e
    exact ⟨World.ownsRow_nil _ _ _ _, fun t ht => by cases ht⟩
  · have e : p = (.slice none 0 0, []) := by simpa using hp
    subst e
    intro t ht; cases ht
theorem State.start (w : World) (s : ByteArray) :
    State w.heap.size ((w.alloc (.cells #[.slice none 0 0] 22)).alloc (.cells #[.string s, .int .i64 0, .slice (some ⟨w.heap.size, 0, none⟩) 1 1, .bool false] 94)) (w.heap.size + 1) s 0 [] [] false :=
  ⟨_, [], _, [], Scan.start w s, rfl, rfl⟩

/-- A list of forms, as a result. -/
def Forms (base : Nat) (w : World) (v : Value) (fs : List Fm) : Prop := ∃ (va : Option Addr) (vc : Nat) (ts : List T), v = .slice va ts.length vc ∧ InL w va 0 ts ∧ ts.map T.form = fs ∧ (ts.length ≤ vc ∧ vc ≤ maxLen) ∧ (∀ t ∈ ts, ∀ b, On t b → base ≤ b) ∧ ∀ b o sp, va = some ⟨b, o, sp⟩ → base ≤ b
def ReadEnd (w w' : World) (r : RD) (e : Ending) : Prop :=
  match r with
  | .err c => e = .returned (.tuple #[.slice none 0 0, .int .i64 c]) ∧ Below w.heap.size w w'
  | .ok fs => ∃ v, e = .returned (.tuple #[v, .int .i64 0]) ∧ Forms w.heap.size w' v fs ∧ Below w.heap.size w w'
theorem row_inL {base : Nat} {w : World} {va : Option Addr} {vc : Nat} {ts : List T} (h : w.ownsRow base 29 4 (.slice va ts.length vc) ts.length (cellsT ts)) (hin : ∀ t ∈ ts, In w t) (hlen : ts.length ≤ 1000000) : InL w va 0 ts ∧ ts.length ≤ vc ∧ vc ≤ maxLen := by
  have h1 := kids_in h hin hlen
  exact ⟨h1.inL, h1.ok.le, h1.ok.cp⟩
/-- What is known at the loop's head. -/
structure RRel (w wr : World) (s : ByteArray) (m pos : Nat) (O : List (List Fm)) (top : List Fm) (tight : Bool) : Prop where
  st : State w.heap.size wr (w.heap.size + 1) s pos O top tight
  below : Below w.heap.size w wr
  tot : tot O top ≤ pos
  le : pos ≤ s.size
  loop : loopS s (s.size + 1) 0 [] [] false = loopS s (m + 1) pos O top tight
  fuel : s.size - pos ≤ m

set_option maxHeartbeats 4000000 in
set_option maxRecDepth 100000 in
theorem read_any (s : ByteArray) (w : World) (hs0 : s.size ≤ maxLen) (hg : Glob w) (h6 : 8 ≤ w.heap.size) :
    Calls Tryz.prog 48 #[.string s] w fun e w' => ReadEnd w w' (readR s) e := by
  unfold maxLen at hs0
  obtain ⟨r, hr⟩ : ∃ r, readR s = r := ⟨_, rfl⟩
  rw [hr]
  by_cases hs : 60000 < s.size
  · obtain rfl : RD.err 2 = r := by rw [← hr, readR, if_pos hs]
    have hs' : (60000 : Int) < (s.size : Int) := by omega
    clear hr hs
    go_enter Tryz.func48, Tryz.ntmps48
    go_wp2_with fail
    go_ret2
    exact ⟨rfl, Below.refl _ _⟩
  · have hs' : ¬ (60000 : Int) < (s.size : Int) := by omega
    have hs2 : s.size ≤ 60000 := by omega
    have hrl : r = readDone (loopS s (s.size + 1) 0 [] [] false) := by rw [← hr, readR, if_neg hs]
    have HRL := Lib.hid hrl
    have HG := Lib.hid hg
    have HST := Lib.hid (State.start w s)
    clear hr hs hrl hg
    go_enter Tryz.func48, Tryz.ntmps48
    go_wp2_with fail
    go_loopg [] (s.size) (fun m wr => ∃ (pos : Nat) (O : List (List Fm)) (top : List Fm) (tight : Bool), RRel w wr s m pos O top tight)
    case atStart => exact ⟨0, [], [], false, HST.out, bel2 _ _ _, by simp [tot, szO, szL], Nat.zero_le _, rfl, by omega⟩
    case round =>
      obtain ⟨pos, O, top, tight, hR⟩ := hrel
      have HR := Lib.hid hR
      have hpl := hR.le
      have hfuel := hR.fuel
      obtain ⟨b1, b2, b3⟩ := tot_bounds (Nat.le_trans hR.tot hR.le)
      obtain ⟨ov, L, v, ts, hSc, hO, htop⟩ := hR.st
      obtain ⟨c0, c1, c2, c3, f1, f2, f3⟩ := hSc.cells
      have HSC := Lib.hid hSc
      have HO := Lib.hid hO
      have HTop := Lib.hid htop
      have HB3 := Lib.hid b3
      clear hR hSc hO htop b3
      by_cases hlt : pos < s.size
      · have hS := step_any w.heap.size wr (w.heap.size + 1) s pos O top tight hlt HR.out.st hs2 (by omega) (by omega) (fun l hl => by have := HB3.out l hl; omega) (HG.out.below HR.out.below h6) h6
        obtain ⟨k, hk⟩ : ∃ k, gk = k + 1 := ⟨gk - 1, by omega⟩
        cases hst : stepS s pos s[pos].toNat O top tight with
        | err c =>
          rw [hst] at hS
          have HS := Lib.hid hS
          have hc : (c != 0) = true := by rcases stepS_err hst with e | e | e <;> rw [e] <;> rfl
          have hrr : r = .err c := by rw [HRL.out, HR.out.loop, loopS_err hlt hst]; rfl
          subst hrr
          clear hst hS hk
          go_wp2_with (go_at_call 76; refine HS.out.mono ?_; rintro e w2 ⟨rfl, hB⟩; have HB := Lib.hid hB; clear hB)
          go_ret2
          exact ⟨rfl, HR.out.below.trans HB.out⟩
        | ok q O' top' t' =>
          have hbd := stepS_bound hlt HR.out.tot hst
          have hnext := loopS_ok (k := k + 1) hlt hst
          rw [hst] at hS
          have HS := Lib.hid hS
          have HN : Hid (∀ wr', State w.heap.size wr' (w.heap.size + 1) s q O' top' t' → Below w.heap.size wr wr' → RRel w wr' s k q O' top' t') :=
            Lib.hid fun wr' h1 h2 => ⟨h1, HR.out.below.trans h2, hbd.2.2, hbd.2.1, by rw [HR.out.loop, hk, hnext], by omega⟩
          have hkk : k < gk := by omega
          clear hst hS hnext hk hbd
          go_wp2_with (go_at_call 76; refine HS.out.mono ?_; rintro e w2 ⟨rfl, hSt, hB⟩; have HB := Lib.hid hB; have HSt := Lib.hid hSt; clear hB hSt)
          go_roundg k
          case measure => omega
          case rel => exact ⟨q, O', top', t', HN.out _ HSt.out HB.out⟩
      · have hend := loopS_end (s := s) (k := gk) (pos := pos) (O := O) (top := top) (tight := tight) hlt
        have hrr : r = readDone (.ok O top) := by rw [HRL.out, HR.out.loop, hend]
        obtain ⟨g, cap, hov, hg1, hg2⟩ := HSC.out.rows.form (by simp)
        subst hov
        simp only [List.length_append, List.length_cons, List.length_nil, Nat.zero_add] at c2 hg1
        have hd : ¬ (pos : Int) < (s.size : Int) := by omega
        by_cases hOe : O = []
        · have hL : L = [] := by have := HO.out; rw [hOe] at this; simpa using this
          subst hL
          obtain ⟨va, vc, hv⟩ : ∃ va vc, v = .slice va ts.length vc := by
            have hv0 := (HSC.out.lvl (v, ts) (by simp)).1
            rcases hv0.2 with ⟨e, e'⟩ | ⟨g', c', cur, e, _⟩
            · have e1 : v = .slice none 0 0 := e
              have e2 : ts.length = 0 := e'
              exact ⟨none, 0, by rw [e1, e2]⟩
            · exact ⟨_, _, e⟩
          subst hv
          have k1 : wr.cell? ⟨g, 0, none⟩ = some (.slice va ts.length vc) := by
            have := HSC.out.rows.cellAt 0 (by simp)
            rw [this]; simp
          have hlen : ts.length ≤ 1000000 := by have e := HTop.out; have : ts.length = top.length := by rw [← e]; simp
                                                omega
          have hsz : szL (ts.map T.form) ≤ 1000000 := by
            rw [HTop.out]
            have e := HR.out.tot
            unfold tot at e; omega
          have hrow := row_inL (HSC.out.lvl (.slice va ts.length vc, ts) (by simp)).1 (fun t ht => ((HSC.out.lvl (.slice va ts.length vc, ts) (by simp)).2 t ht).1) hlen
          have HHI := Lib.hid (HSC.out.hi (.slice va ts.length vc, ts) (by simp))
          have HVB : Hid (∀ b o sp, va = some ⟨b, o, sp⟩ → w.heap.size ≤ b) := Lib.hid fun b o sp e => ((HSC.out.lvl (.slice va ts.length vc, ts) (by simp)).1.lt b (by rw [e]; rfl)).1
          have HA := allValid_any ts va vc wr hlen hrow.1 hsz
          rw [HTop.out] at HA
          have HRW := Lib.hid hrow
          rw [hOe] at hrr
          simp only [readDone, ne_eq, not_true_eq_false, if_false] at hrr
          cases hall : top.all validF with
          | true =>
            rw [hall] at HA hrr
            rw [if_pos rfl] at hrr
            subst hrr
            have HA := Lib.hid HA
            clear hall hrow hend hOe hsz
            go_wp2_with (go_at_call 77; refine HA.out.mono ?_; rintro e w2 ⟨rfl, hB⟩; have HB := Lib.hid hB; clear hB)
            go_ret2
            exact ⟨_, rfl, ⟨va, vc, ts, rfl, HRW.out.1.below HB.out, HTop.out, HRW.out.2, HHI.out, HVB.out⟩, upB HR.out.below HB.out (Nat.le_refl _)⟩
          | false =>
            rw [hall] at HA hrr
            rw [if_neg (by simp)] at hrr
            subst hrr
            have HA := Lib.hid HA
            clear hall hrow hend hOe hsz
            go_wp2_with (go_at_call 77; refine HA.out.mono ?_; rintro e w2 ⟨rfl, hB⟩; have HB := Lib.hid hB; clear hB)
            go_ret2
            exact ⟨rfl, upB HR.out.below HB.out (Nat.le_refl _)⟩
        · have hL : 1 ≤ L.length := by
            rcases L with _ | ⟨p, L'⟩
            · exact absurd HO.out.symm hOe
            · simp
          have hL' : (1 : Int) < (L.length : Int) + 1 := by omega
          have hL1 : L.length ≤ 60000 := by have e := HO.out; have : L.length = O.length := by rw [← e]; simp
                                            omega
          simp only [readDone, ne_eq, hOe, not_false_eq_true, if_true] at hrr
          subst hrr
          clear hend hOe
          go_wp2_with fail
          go_ret2
          exact ⟨rfl, HR.out.below⟩
end Go.Proofs.YtedabholcldgbaaGreatDoor

/- reader.One, reader.Head and the chapter's example. -/
namespace Go.Proofs.YtedabholcldgbaaGreatDoor
open Go.RowKit Go.Deep

def headF (f : Fm) : ByteArray := match f.kids with
  | [] => ⟨#[]⟩
  | k :: _ => if k.kd = 1 then k.tx else ⟨#[]⟩
theorem headF_nil {f : Fm} (h : f.kids = []) : headF f = ⟨#[]⟩ := by unfold headF; rw [h]
theorem headF_cons {f k : Fm} {r : List Fm} (h : f.kids = k :: r) : headF f = if k.kd = 1 then k.tx else ⟨#[]⟩ := by unfold headF; rw [h]
theorem ret_str {a b : ByteArray} (h : a = b) : Ending.returned (.string a) = .returned (.string b) := by rw [h]
set_option maxHeartbeats 1000000 in
theorem head_any (t : T) (w : World) (hin : In w t) :
    Calls Tryz.prog 43 #[t.val] w fun e w' => e = .returned (.string (headF t.form)) ∧ Below w.heap.size w w' := by
  obtain ⟨a, c, xs, hxs, hlen, hmem, hInL, hkids⟩ := kids_any t
  have hlen := hlen hin.ok
  unfold maxLen at hlen
  have HK := Lib.hid hkids
  have HI := Lib.hid hInL
  have HIN := Lib.hid hin
  clear hkids hInL hin hmem
  rcases xs with _ | ⟨x, r⟩
  · rw [headF_nil (by rw [← hxs]; rfl)]
    simp only [List.length_nil] at HK
    clear hxs hlen
    go_enter Tryz.func43, Tryz.ntmps43
    go_wp2_with (go_at_call 71; refine (HK.out _).mono ?_; rintro e w2 ⟨rfl, hB⟩; have HB := Lib.hid hB; clear hB)
    go_ret
    exact ⟨rfl, up (bel1 _ _) HB.out⟩
  · have hh : headF t.form = if x.kd = 1 then x.tx else ⟨#[]⟩ := by
      rw [headF_cons (k := x.form) (r := r.map T.form) (by rw [← hxs]; rfl), T.form_kd, T.form_tx]
    have HX : Hid (∀ w', In w' t → ∃ b o, a = some ⟨b, o, none⟩ ∧ Cells4 w' b o x) := Lib.hid fun w' h => by
      have h0 := (HI.out w' h).at 0 (by simp)
      obtain ⟨⟨b, o, e, hc⟩, _⟩ := h0
      exact ⟨b, o, e, by simpa using hc⟩
    obtain ⟨b, o, rfl, _⟩ := HX.out w HIN.out
    have HC : Hid (∀ w', In w' t → Cells4 w' b o x) := Lib.hid fun w' h => by
      obtain ⟨b', o', e, hc⟩ := HX.out w' h
      injection e with e
      injection e with e1 e2 e3
      subst e1 e2
      exact hc
    obtain ⟨n, hn⟩ : ∃ n : Nat, (x :: r).length = n + 1 := ⟨r.length, rfl⟩
    rw [hn] at HK hlen
    have hn0 : (((n : Int) + 1) == 0) = false := by simp; omega
    have hn1 : (0 : Int) < (n : Int) + 1 := by omega
    rw [hh]
    clear hh hxs HX hn
    by_cases h1 : x.kd = 1
    · rw [if_pos h1]
      have g1 : (x.kd != 1) = false := by simpa using h1
      clear h1
      go_enter Tryz.func43, Tryz.ntmps43
      go_wp2_with (go_at_call 71; refine (HK.out _).mono ?_; rintro e w2 ⟨rfl, hB⟩; obtain ⟨k0, k1, k2, k3⟩ := HC.out w2 ((HIN.out.alloc _).below hB); have HB := Lib.hid hB; clear hB)
      go_ret
      exact ⟨rfl, up (bel1 _ _) HB.out⟩
    · rw [if_neg h1]
      have g1 : (x.kd != 1) = true := by simpa using h1
      clear h1
      go_enter Tryz.func43, Tryz.ntmps43
      go_wp2_with (go_at_call 71; refine (HK.out _).mono ?_; rintro e w2 ⟨rfl, hB⟩; obtain ⟨k0, k1, k2, k3⟩ := HC.out w2 ((HIN.out.alloc _).below hB); have HB := Lib.hid hB; clear hB)
      go_ret
      exact ⟨rfl, up (bel1 _ _) HB.out⟩

inductive OD where
  | err (e : Int)
  | ok (f : Fm)
def oneDone : RD → OD
  | .err c => .err c
  | .ok [f] => .ok f
  | .ok _ => .err 4
def oneR (s : ByteArray) : OD := oneDone (readR s)
def OneEnd (w w' : World) (r : OD) (e : Ending) : Prop :=
  match r with
  | .err c => e = .returned (.tuple #[.agg #[.int .i64 0, .int .i64 0, .string ⟨#[]⟩, .slice none 0 0], .int .i64 c]) ∧ Below w.heap.size w w'
  | .ok f => ∃ t : T, e = .returned (.tuple #[t.val, .int .i64 0]) ∧ t.form = f ∧ In w' t ∧ Below w.heap.size w w'
theorem loopS_err_code {s : ByteArray} {c : Int} : ∀ (k pos : Nat) (O : List (List Fm)) (top : List Fm) (tight : Bool), s.size - pos < k → pos ≤ s.size → tot O top ≤ pos → loopS s k pos O top tight = .err c → c ≠ 0 := by
  intro k
  induction k with
  | zero => intro pos O top tight h; omega
  | succ k ih =>
    intro pos O top tight hk hp ht h
    by_cases hlt : pos < s.size
    · cases hst : stepS s pos s[pos].toNat O top tight with
      | err c' =>
        rw [loopS_err hlt hst] at h
        injection h with h
        subst h
        rcases stepS_err hst with e | e | e <;> omega
      | ok q O' top' t' =>
        rw [loopS_ok hlt hst] at h
        obtain ⟨b1, b2, b3⟩ := stepS_bound hlt ht hst
        exact ih q O' top' t' (by omega) b2 b3 h
    · rw [loopS_end hlt] at h; cases h
theorem readR_err {s : ByteArray} {c : Int} (h : readR s = .err c) : c ≠ 0 := by
  unfold readR at h
  split at h
  · injection h with h; omega
  · cases hl : loopS s (s.size + 1) 0 [] [] false with
    | err c' =>
      rw [hl] at h
      simp only [readDone, RD.err.injEq] at h
      subst h
      exact loopS_err_code _ _ _ _ _ (by omega) (by omega) (by simp [tot, szO, szL]) hl
    | ok O top =>
      rw [hl] at h
      simp only [readDone] at h
      split at h
      · injection h with h; omega
      · split at h
        · cases h
        · injection h with h; omega
end Go.Proofs.YtedabholcldgbaaGreatDoor

/- The document's own validity and head. -/
namespace Go.Proofs.YtedabholcldgbaaGreatDoor
open Go.RowKit Go.Deep

def FldTo (ks : List T) (k : Nat) : Prop := ∀ j (h : j < ks.length), j < k → fieldsF ks[j].form = true
theorem FldTo.step {ks : List T} {k : Nat} (h : FldTo ks k) (hk : k < ks.length) (hv : fieldsF ks[k].form = true) : FldTo ks (k + 1) := by
  intro j hj hlt
  by_cases e : j = k
  · subst e; exact hv
  · exact h j hj (by omega)
theorem fieldsL_all : ∀ l : List Fm, fieldsL l = l.all fieldsF
  | [] => by simp [fieldsL]
  | f :: fs => by simp [fieldsL, fieldsL_all fs]
theorem FldTo.ends {ks : List T} {k : Nat} (h : FldTo ks k) (hk : ks.length ≤ k) : fieldsL (ks.map T.form) = true := by
  rw [fieldsL_all, List.all_eq_true]
  intro f hf
  obtain ⟨t, ht, rfl⟩ := List.mem_map.1 hf
  obtain ⟨j, hj, rfl⟩ := List.getElem_of_mem ht
  exact h j hj (by omega)
theorem FldTo.stop {ks : List T} {k : Nat} (hk : k < ks.length) (hv : fieldsF ks[k].form = false) : fieldsL (ks.map T.form) = false := by
  rw [fieldsL_all, List.all_eq_false]
  exact ⟨ks[k].form, List.mem_map_of_mem (List.getElem_mem hk), by rw [hv]; simp⟩
theorem fieldsT (t : T) : fieldsF t.form = (aloneF t.form && (if t.kd = 3 then fieldsL (t.ks.map T.form) else true)) := by
  rw [fieldsF_eq]
  unfold Fm.kids
  rw [T.form_kd, T.form_ks]
  split <;> simp [fieldsL]

set_option maxHeartbeats 4000000 in
theorem rfields_any (n : Nat) : ∀ t : T, SizeOf.sizeOf t < n → ∀ w, In w t →
    Calls Tryz.prog 73 #[t.val] w fun e w' => e = .returned (.bool (fieldsF t.form)) ∧ Below w.heap.size w w' := by
  induction n with
  | zero => intro t h; omega
  | succ n ih =>
    intro t hn w hin
    have HW := Lib.hid (rword_any t.tx hin.ok.tx)
    have HX := Lib.hid (rtext_ok t.tx hin.ok.tx)
    obtain ⟨r, hr⟩ : ∃ r, fieldsF t.form = r := ⟨_, rfl⟩
    rw [hr]
    have n1 := Nat.le_trans hin.ok.le hin.ok.cp
    unfold maxLen at n1
    rw [fieldsT, aloneT] at hr
    by_cases k0 : t.kd = 0
    · rw [if_pos k0, if_neg (by omega), Bool.and_true] at hr
      by_cases hl : t.ks.length = 0
      · have hke : t.ks.isEmpty = true := by simpa using List.length_eq_zero_iff.1 hl
        rw [hke, Bool.and_true] at hr
        by_cases hx : t.tx.size = 0
        · have x1 := toList_nil hx
          simp only [hx, rangeB] at hr
          by_cases r1 : -1152921504606846976 ≤ t.nn
          · by_cases r2 : t.nn ≤ 1152921504606846976
            · have HR : Hid (true = r) := Lib.hid (by rw [← hr]; simp [r1, r2])
              clear ih hin
              go_enter Tryz.func73, Tryz.ntmps73
              go_wp2_with fail
              go_ret
              exact ⟨ret_bool HR.out, bel1 _ _⟩
            · have HR : Hid (false = r) := Lib.hid (by rw [← hr]; simp [r2])
              have r3 : decide (t.nn ≤ 1152921504606846976) = false := by simpa using r2
              clear ih hin
              go_enter Tryz.func73, Tryz.ntmps73
              go_wp2_with fail
              go_ret
              exact ⟨ret_bool HR.out, bel1 _ _⟩
          · have HR : Hid (false = r) := Lib.hid (by rw [← hr]; simp [r1])
            have r3 : decide (-1152921504606846976 ≤ t.nn) = false := by simpa using r1
            clear ih hin
            go_enter Tryz.func73, Tryz.ntmps73
            go_wp2_with fail
            go_ret
            exact ⟨ret_bool HR.out, bel1 _ _⟩
        · have x1 := toList_ne hx
          have x2 : t.tx.toList.isEmpty = false := by simpa using x1
          have HR : Hid (false = r) := Lib.hid (by rw [← hr]; simp [hx])
          clear ih hin
          go_enter Tryz.func73, Tryz.ntmps73
          go_wp2_with fail
          go_ret
          exact ⟨ret_bool HR.out, bel1 _ _⟩
      · have hke : t.ks.isEmpty = false := by cases h : t.ks with
                                              | nil => exact absurd (by rw [h]; rfl) hl
                                              | cons _ _ => rfl
        have HR : Hid (false = r) := Lib.hid (by rw [← hr, hke]; simp)
        have hl0 : 0 < t.ks.length := by omega
        clear ih hin
        go_enter Tryz.func73, Tryz.ntmps73
        go_wp2_with fail
        go_ret
        exact ⟨ret_bool HR.out, bel1 _ _⟩
    · rw [if_neg k0] at hr
      have g0 : (t.kd != 0) = true := by simpa using k0
      have b0 : (t.kd == 0) = false := by simpa using k0
      by_cases hnn : t.nn = 0
      · have gn : (t.nn != 0) = false := by simpa using hnn
        by_cases k3 : t.kd = 3
        · rw [if_neg (by omega), if_neg (by omega), if_pos k3, if_pos k3] at hr
          have g3 : (t.kd != 3) = false := by simpa using k3
          have b3 : (t.kd == 3) = true := by simpa using k3
          have g1 : (t.kd != 1) = true := by simp; omega
          have g2 : (t.kd != 2) = true := by simp; omega
          have b1 : (t.kd == 1) = false := by simp; omega
          have b2 : (t.kd == 2) = false := by simp; omega
          by_cases hx : t.tx.size = 0
          · have x1 := toList_nil hx
            have HR : Hid (fieldsL (t.ks.map T.form) = r) := Lib.hid (by rw [← hr]; simp [hnn, hx])
            obtain ⟨a, ha⟩ : ∃ a, t.ad = a := ⟨_, rfl⟩
            have HK : Hid (∀ W, Below w.heap.size w W → InL W a 0 t.ks) := Lib.hid fun W h => by rw [← ha]; exact (hin.below h).inL
            have HAD := Lib.hid ha
            have IH := Lib.hid ih
            have K0 := Lib.hid (Boxed.start w t)
            clear ha ih hin hr k0 k3 hnn hx HW HX
            go_enter Tryz.func73, Tryz.ntmps73
            go_wp2_with fail
            go_loopg [3] (t.ks.length) (fun m i wr => ∃ k : Nat, k ≤ t.ks.length ∧ m = t.ks.length - k ∧ i = .int .i64 k ∧ FldTo t.ks k ∧ Boxed w wr t)
            case atStart => exact ⟨0, by omega, by omega, rfl, fun j _ h => absurd h (by omega), K0.out⟩
            case round =>
              obtain ⟨k, hk, rfl, rfl, hf, hbx⟩ := hrel
              obtain ⟨c0, c1, c2, c3⟩ := box_cells hbx.1 HAD.out
              have HBX := Lib.hid hbx
              by_cases hlt : k < t.ks.length
              · obtain ⟨⟨b, o, rfl, hx0, hx1, hx2, hx3⟩, hink⟩ := (HK.out _ HBX.out.2).at k hlt
                have lb : b < wr.heap.size := World.block_lt_of_cell? _ _ hx0
                have hmk := List.getElem_mem hlt
                have HC := Lib.hid (IH.out t.ks[k] (by have := T.kid_lt hmk; omega) wr hink)
                cases hv : fieldsF t.ks[k].form with
                | true =>
                  rw [hv] at HC
                  have HS := Lib.hid (hf.step hlt hv)
                  clear hv hf hbx hink
                  go_wp2_with (go_at_call 73; refine HC.out.mono ?_; rintro e w2 ⟨rfl, hB⟩; have HB := Lib.hid hB; clear hB)
                  go_roundg (t.ks.length - (k + 1))
                  case measure => omega
                  case rel => exact ⟨k + 1, by omega, rfl, by go_num, HS.out, HBX.out.next HB.out⟩
                | false =>
                  rw [hv] at HC
                  have HS : Hid (false = r) := Lib.hid (by rw [← HR.out, FldTo.stop hlt hv])
                  clear hv hf hbx hink
                  go_wp2_with (go_at_call 73; refine HC.out.mono ?_; rintro e w2 ⟨rfl, hB⟩; have HB := Lib.hid hB; clear hB)
                  go_ret
                  exact ⟨ret_bool HS.out, (HBX.out.next HB.out).2⟩
              · have HS : Hid (true = r) := Lib.hid (by rw [← HR.out, hf.ends (by omega)])
                clear hf hbx
                go_wp2_with fail
                go_ret
                exact ⟨ret_bool HS.out, HBX.out.2⟩
          · have x1 := toList_ne hx
            have x2 : t.tx.toList.isEmpty = false := by simpa using x1
            have HR : Hid (false = r) := Lib.hid (by rw [← hr]; simp [hx])
            clear ih hin
            go_enter Tryz.func73, Tryz.ntmps73
            go_wp2_with fail
            go_ret
            exact ⟨ret_bool HR.out, bel1 _ _⟩
        · have g3 : (t.kd != 3) = true := by simpa using k3
          have b3 : (t.kd == 3) = false := by simpa using k3
          by_cases hl : t.ks.length = 0
          · have hke : t.ks.isEmpty = true := by simpa using List.length_eq_zero_iff.1 hl
            have hl0 : ¬ 0 < t.ks.length := by omega
            by_cases k1 : t.kd = 1
            · rw [if_pos k1, if_neg (by omega)] at hr
              have g1 : (t.kd != 1) = false := by simpa using k1
              have b1 : (t.kd == 1) = true := by simpa using k1
              have HR : Hid (wordB t.tx = r) := Lib.hid (by rw [← hr]; simp [hnn, hke])
              clear hr k0 k1 k3 hnn ih hin
              go_enter Tryz.func73, Tryz.ntmps73
              go_wp2_with (go_at_call 105; refine (HW.out _).mono ?_; rintro e w2 ⟨rfl, rfl⟩)
              go_ret
              exact ⟨ret_bool HR.out, bel1 _ _⟩
            · have g1 : (t.kd != 1) = true := by simpa using k1
              have b1 : (t.kd == 1) = false := by simpa using k1
              by_cases k2 : t.kd = 2
              · rw [if_neg k1, if_pos k2, if_neg (by omega)] at hr
                have g2 : (t.kd != 2) = false := by simpa using k2
                have b2 : (t.kd == 2) = true := by simpa using k2
                have HR : Hid (textB t.tx = r) := Lib.hid (by rw [← hr]; simp [hnn, hke])
                clear hr k0 k1 k2 k3 hnn ih hin
                go_enter Tryz.func73, Tryz.ntmps73
                go_wp2_with (go_at_call 106; refine (HX.out _).mono ?_; rintro e w2 ⟨rfl, rfl⟩)
                go_ret
                exact ⟨ret_bool HR.out, bel1 _ _⟩
              · have g2 : (t.kd != 2) = true := by simpa using k2
                have b2 : (t.kd == 2) = false := by simpa using k2
                have HR : Hid (false = r) := Lib.hid (by rw [← hr, if_neg k1, if_neg k2, if_neg k3]; simp)
                by_cases hx : t.tx.size = 0
                · have x1 := toList_nil hx
                  clear ih hin
                  go_enter Tryz.func73, Tryz.ntmps73
                  go_wp2_with fail
                  go_ret
                  exact ⟨ret_bool HR.out, bel1 _ _⟩
                · have x1 := toList_ne hx
                  have x2 : t.tx.toList.isEmpty = false := by simpa using x1
                  clear ih hin
                  go_enter Tryz.func73, Tryz.ntmps73
                  go_wp2_with fail
                  go_ret
                  exact ⟨ret_bool HR.out, bel1 _ _⟩
          · have hke : t.ks.isEmpty = false := by cases h : t.ks with
                                                  | nil => exact absurd (by rw [h]; rfl) hl
                                                  | cons _ _ => rfl
            have HR : Hid (false = r) := Lib.hid (by rw [← hr, hke, if_neg k3]; split <;> simp)
            have hl0 : 0 < t.ks.length := by omega
            clear ih hin
            go_enter Tryz.func73, Tryz.ntmps73
            go_wp2_with fail
            go_ret
            exact ⟨ret_bool HR.out, bel1 _ _⟩
      · have gn : (t.nn != 0) = true := by simpa using hnn
        have HR : Hid (false = r) := Lib.hid (by rw [← hr]; simp [hnn])
        clear ih hin
        go_enter Tryz.func73, Tryz.ntmps73
        go_wp2_with fail
        go_ret
        exact ⟨ret_bool HR.out, bel1 _ _⟩
theorem rfields_T (t : T) (w : World) (hin : In w t) : Calls Tryz.prog 73 #[t.val] w fun e w' => e = .returned (.bool (fieldsF t.form)) ∧ Below w.heap.size w w' :=
  rfields_any _ t (Nat.lt_succ_self _) w hin
theorem rsize_T (t : T) (w : World) (hin : In w t) (hb : szF t.form ≤ 4611686018427387903) : Calls Tryz.prog 107 #[t.val] w fun e w' => e = .returned (.int .i64 (szF t.form)) ∧ Below w.heap.size w w' :=
  rsize_any _ t (Nat.lt_succ_self _) w hin hb
theorem rdepth_T (t : T) (w : World) (hin : In w t) (hb : szF t.form ≤ 4611686018427387903) : Calls Tryz.prog 108 #[t.val] w fun e w' => e = .returned (.int .i64 (dpF t.form)) ∧ Below w.heap.size w w' :=
  rdepth_any _ t (Nat.lt_succ_self _) w hin hb
def smallF (f : Fm) : Bool := decide (szF f ≤ 20000) && decide (dpF f ≤ 100)
theorem rsmall_any (t : T) (w : World) (hin : In w t) (hb : szF t.form ≤ 4611686018427387903) :
    Calls Tryz.prog 74 #[t.val] w fun e w' => e = .returned (.bool (smallF t.form)) ∧ Below w.heap.size w w' := by
  have H1 := Lib.hid fun W (h : In W t) => rsize_T t W h hb
  have H2 := Lib.hid fun W (h : In W t) => rdepth_T t W h hb
  have HI := Lib.hid hin
  obtain ⟨r, hr⟩ : ∃ r, smallF t.form = r := ⟨_, rfl⟩
  rw [hr]
  unfold smallF at hr
  have hd := dpF_le_szF t.form
  generalize szF t.form = m at *
  generalize dpF t.form = q at *
  have hd2 : (q : Int) ≤ 4611686018427387903 := by omega
  clear hin hd
  by_cases h1 : m ≤ 20000
  · have g1 : (m : Int) ≤ 20000 := by omega
    by_cases h2 : q ≤ 100
    · have g2 : (q : Int) ≤ 100 := by omega
      have HR : Hid (true = r) := Lib.hid (by rw [← hr]; simp [h1, h2])
      clear hr h1 h2
      go_enter Tryz.func74, Tryz.ntmps74
      go_wp2_with (first
        | (go_at_call 107; refine (H1.out _ (HI.out.alloc _)).mono ?_; rintro e w2 ⟨rfl, hB⟩; obtain ⟨c0, c1, c2, c3⟩ := Box4.cells (w := w2) (b := w.heap.size) (t := t) ((hB.block _ (by simp)).trans (heap_alloc_new w _)); have HB := Lib.hid (up (bel1 _ _) hB); clear hB)
        | (go_at_call 108; refine (H2.out _ (HI.out.below HB.out)).mono ?_; rintro e w3 ⟨rfl, hB⟩; have HB3 := Lib.hid (up HB.out hB); clear hB))
      go_ret
      exact ⟨ret_bool HR.out, HB3.out⟩
    · have g2 : decide ((q : Int) ≤ 100) = false := by simp; omega
      have HR : Hid (false = r) := Lib.hid (by rw [← hr]; simp [h2])
      clear hr h1 h2
      go_enter Tryz.func74, Tryz.ntmps74
      go_wp2_with (first
        | (go_at_call 107; refine (H1.out _ (HI.out.alloc _)).mono ?_; rintro e w2 ⟨rfl, hB⟩; obtain ⟨c0, c1, c2, c3⟩ := Box4.cells (w := w2) (b := w.heap.size) (t := t) ((hB.block _ (by simp)).trans (heap_alloc_new w _)); have HB := Lib.hid (up (bel1 _ _) hB); clear hB)
        | (go_at_call 108; refine (H2.out _ (HI.out.below HB.out)).mono ?_; rintro e w3 ⟨rfl, hB⟩; have HB3 := Lib.hid (up HB.out hB); clear hB))
      go_ret
      exact ⟨ret_bool HR.out, HB3.out⟩
  · have g1 : ¬ (m : Int) ≤ 20000 := by omega
    have HR : Hid (false = r) := Lib.hid (by rw [← hr]; simp [h1])
    clear hr h1
    go_enter Tryz.func74, Tryz.ntmps74
    go_wp2_with (go_at_call 107; refine (H1.out _ (HI.out.alloc _)).mono ?_; rintro e w2 ⟨rfl, hB⟩; have HB := Lib.hid (up (bel1 _ _) hB); clear hB)
    go_ret
    exact ⟨ret_bool HR.out, HB.out⟩
theorem valid_small (f : Fm) : validF f = (fieldsF f && smallF f) := by
  unfold validF smallF
  cases fieldsF f <;> simp
theorem rvalid_any (t : T) (w : World) (hin : In w t) (hb : szF t.form ≤ 4611686018427387903) :
    Calls Tryz.prog 46 #[t.val] w fun e w' => e = .returned (.bool (validF t.form)) ∧ Below w.heap.size w w' := by
  have H1 := Lib.hid fun W (h : In W t) => rfields_T t W h
  have H2 := Lib.hid fun W (h : In W t) => rsmall_any t W h hb
  have HI := Lib.hid hin
  rw [valid_small]
  clear hin
  cases hf : fieldsF t.form with
  | false =>
    rw [hf] at H1
    clear hf
    go_enter Tryz.func46, Tryz.ntmps46
    go_wp2_with (go_at_call 73; refine (H1.out _ (HI.out.alloc _)).mono ?_; rintro e w2 ⟨rfl, hB⟩; have HB := Lib.hid (up (bel1 _ _) hB); clear hB)
    go_ret
    exact ⟨rfl, HB.out⟩
  | true =>
    rw [hf] at H1
    rw [Bool.true_and]
    clear hf
    obtain ⟨r, hr⟩ : ∃ r, smallF t.form = r := ⟨_, rfl⟩
    rw [hr] at H2 ⊢
    clear hr
    go_enter Tryz.func46, Tryz.ntmps46
    go_wp2_with (first
      | (go_at_call 73; refine (H1.out _ (HI.out.alloc _)).mono ?_; rintro e w2 ⟨rfl, hB⟩; obtain ⟨c0, c1, c2, c3⟩ := Box4.cells (w := w2) (b := w.heap.size) (t := t) ((hB.block _ (by simp)).trans (heap_alloc_new w _)); have HB := Lib.hid (up (bel1 _ _) hB); clear hB)
      | (go_at_call 74; refine (H2.out _ (HI.out.below HB.out)).mono ?_; rintro e w3 ⟨rfl, hB⟩; have HB3 := Lib.hid (up HB.out hB); clear hB))
    go_ret
    exact ⟨rfl, HB3.out⟩
end Go.Proofs.YtedabholcldgbaaGreatDoor

/- Bytes that a call owns, carried from append to append. -/
namespace Go.Proofs.YtedabholcldgbaaGreatDoor
open Go.RowKit Go.Deep

/-- The slice v owns the bytes l, from block B on. Since w0 nothing below B has turned, and no block but those of bytes. -/
structure Buf (B : Nat) (w0 w : World) (v : Value) (l : List UInt8) : Prop where
  own : w.ownsRow B 5 1 v l.length (bytesV l)
  below : Below B w0 w
  kept : Lib.OthersKept 5 none w0 w
  le : B ≤ w.heap.size
theorem Buf.start {B : Nat} {w : World} (h : B ≤ w.heap.size) : Buf B w w (.slice none 0 0) [] := ⟨World.ownsRow_nil _ _ _ _, Below.refl _ _, Lib.OthersKept.refl _ _ _, h⟩
theorem Buf.back {B : Nat} {w0 w : World} {v : Value} {l : List UInt8} (h : Buf B w0 w v l) : Buf B w w v l := ⟨h.own, Below.refl _ _, Lib.OthersKept.refl _ _ _, h.le⟩
theorem Buf.trans {B : Nat} {w0 w w' : World} {v v' : Value} {l l' : List UInt8} (h : Buf B w0 w v l) (k : Buf B w w' v' l') : Buf B w0 w' v' l' := ⟨k.own, h.below.trans k.below, h.kept.trans k.kept, k.le⟩
theorem Buf.alloc {B : Nat} {w0 w : World} {v : Value} {l : List UInt8} (h : Buf B w0 w v l) (o : Obj) : Buf B w0 (w.alloc o) v l :=
  ⟨h.own.alloc o, h.below.alloc h.le o, h.kept.alloc o, Nat.le_trans h.le (by simp)⟩
/-- Behind what turned nothing that was there. -/
theorem Buf.next {B : Nat} {w0 w w' : World} {v : Value} {l : List UInt8} (h : Buf B w0 w v l) (hb : Below w.heap.size w w') : Buf B w0 w' v l :=
  ⟨own_same h.own fun k hk => hb.block k (h.own.lt k hk).2, h.below.trans (hb.mono h.le), h.kept.below hb, Nat.le_trans h.le hb.size⟩
theorem Buf.isBytes {B : Nat} {w0 w : World} {v : Value} {l : List UInt8} (h : Buf B w0 w v l) : ∀ g, v.ownBlock = some g → ∃ c fz, w.heap[g]? = some (.cells c 5 fz) := by
  intro g hg
  rcases h.own.2 with ⟨rfl, _⟩ | ⟨g', cap, cur, rfl, _, hc, _⟩
  · cases hg
  · simp only [Value.ownBlock, Option.some.injEq] at hg
    subst hg
    exact ⟨_, _, hc⟩
theorem Buf.grown {B : Nat} {w0 w w' : World} {v v' : Value} {l l' : List UInt8} (h : Buf B w0 w v l) (hg : w.grownBy w' v.ownBlock) (ho : w'.ownsRow B 5 1 v' l'.length (bytesV l')) : Buf B w0 w' v' l' :=
  ⟨ho, h.below.grown hg h.le fun b hb => (h.own.lt b hb).1, h.kept.grown hg h.isBytes, Nat.le_trans h.le hg.size⟩
theorem bytesV_append (a b : List UInt8) : bytesV (a ++ b) = bytesV a ++ bytesV b := by simp [bytesV]
theorem bytesV_one (l : List UInt8) : ∀ u ∈ bytesV l, u.oneCell' = true := by
  intro u hu
  simp only [bytesV, List.mem_map] at hu
  obtain ⟨b, _, rfl⟩ := hu
  rfl
/-- append of bytes that were laid for the statement. -/
theorem buf_bytes {ops : Array Oper} {rest : List Oper} {o : Oper} {a : Act} {Q : Exit → Act → World → Prop} (hgd : o.guard = none) (s x : Operand) (t : TypeId)
    (ho : o.op = .call { callee := .builtin .append, args := #[s, x], argTypes := #[t, t] }) (ht : Tryz.prog.underlying t = some (.slice 5))
    {B : Nat} {w0 w : World} {v : Value} {l : List UInt8} (hs : a.eval s = v) (hb : Buf B w0 w v l) (news : List UInt8) (cs : Array Value) (hcs : cs.toList = bytesV news) (m : Nat) (hm : news.length = m) (c A : Nat)
    (hx : a.eval x = .slice (some ⟨A, 0, none⟩) m c) (hA : w.heap.size = A) (hlen : l.length + m ≤ 140737488355328)
    (h : ∀ v' w', Buf B w0 w' v' (l ++ news) → wpList Tryz.prog ops Q rest (a.put o.dst v') w') : wpList Tryz.prog ops Q (o :: rest) a (w.alloc (.cells cs 5)) := by
  subst hA
  obtain ⟨i0, hi0, hz0, hz1, hz2⟩ := info_parts info5
  have hb' := hb.alloc (.cells cs 5)
  have hl : (l ++ news).length = l.length + m := by simp [hm]
  refine wpList_append_own _ hgd s x t ho B 5 i0 (.int .u8 0) 1 1 ht hi0 hz0 hz1 hz2 rfl (by decide) v l.length (bytesV l) hs hb'.own ⟨w.heap.size, 0, none⟩ m c (bytesV news) hx (by simp [bytesV, hm])
    (fun j u hu => World.news_of_block (cs := cs) (t := 5) (fr := (0, 0)) (heap_alloc_new w _) j u (by rw [hcs]; exact hu)) (bytesV_one news) (by unfold maxLen; omega) (by omega) hb'.le ?_
  intro v' w' ho' hg _
  refine h v' w' (hb'.grown hg ?_)
  rw [hl, bytesV_append]
  exact ho'
/-- append of a string's bytes. -/
theorem buf_text {ops : Array Oper} {rest : List Oper} {o : Oper} {a : Act} {Q : Exit → Act → World → Prop} (hgd : o.guard = none) (s x : Operand) (t u : TypeId)
    (ho : o.op = .call { callee := .builtin .append, args := #[s, x], argTypes := #[t, u] }) (ht : Tryz.prog.underlying t = some (.slice 5)) (hu : Tryz.prog.underlying u = some .string)
    {B : Nat} {w0 w : World} {v : Value} {l : List UInt8} (hs : a.eval s = v) (hb : Buf B w0 w v l) (d : ByteArray) (hx : a.eval x = .string d) (hlen : l.length + d.size ≤ 140737488355328)
    (h : ∀ v' w', Buf B w0 w' v' (l ++ d.data.toList) → wpList Tryz.prog ops Q rest (a.put o.dst v') w') : wpList Tryz.prog ops Q (o :: rest) a w := by
  obtain ⟨i0, hi0, hz0, hz1, hz2⟩ := info_parts info5
  have hl : (l ++ d.data.toList).length = l.length + d.size := by simp
  refine Lib.wpList_append_own_string _ hgd s x t u ho B 5 i0 ht hu hi0 hz0 hz1 hz2 v l.length (bytesV l) hs hb.own d hx (by unfold maxLen; omega) (by omega) hb.le ?_
  intro v' w' ho' hg _
  refine h v' w' (hb.grown hg ?_)
  rw [hl, bytesV_append]
  exact ho'
end Go.Proofs.YtedabholcldgbaaGreatDoor

/- reader.appendText: a text as it is written. -/
namespace Go.Proofs.YtedabholcldgbaaGreatDoor
open Go.RowKit Go.Deep

/-- It returns what owns these bytes. -/
def BufEnd (B : Nat) (w w' : World) (l : List UInt8) (e : Ending) : Prop := ∃ v', e = .returned v' ∧ Buf B w w' v' l
theorem take_byte (s : ByteArray) (k : Nat) (h : k < s.size) : s.data.toList.take (k + 1) = s.data.toList.take k ++ [s[k]] := by
  rw [List.take_succ_eq_append_getElem (by simpa using h)]; rfl
theorem esc_next {l : List UInt8} {s : ByteArray} {k : Nat} (h : k < s.size) {x : List UInt8} (hx : escB s[k] = x) : l ++ 34 :: escL (s.data.toList.take k) ++ x = l ++ 34 :: escL (s.data.toList.take (k + 1)) := by
  rw [take_byte s k h, escL_snoc, hx]; simp
theorem quo_done (l : List UInt8) (s : ByteArray) {k : Nat} (h : s.size ≤ k) : l ++ 34 :: escL (s.data.toList.take k) ++ [34] = l ++ quoL s.data.toList := by
  rw [List.take_of_length_le (by simp; omega)]; simp [quoL]
theorem esc_small (l : List UInt8) (s : ByteArray) (k : Nat) (hs : s.size ≤ 2000) (hl : l.length ≤ 1000000000) : (l ++ 34 :: escL (s.data.toList.take k)).length ≤ 1000010000 := by
  have h1 := escL_len (s.data.toList.take k)
  have h2 : (s.data.toList.take k).length ≤ s.data.toList.length := List.length_take_le' _ _
  have e : s.data.toList.length = s.size := by simp
  simp only [List.length_append, List.length_cons]
  omega

set_option maxHeartbeats 2000000 in
theorem appendText_any (B : Nat) (s : ByteArray) (hs : s.size ≤ 2000) (v : Value) (l : List UInt8) (hl : l.length ≤ 1000000000) (w : World) (hb : Buf B w w v l) :
    Calls Tryz.prog 61 #[v, .string s] w fun e w' => BufEnd B w w' (l ++ quoL s.data.toList) e := by
  have HB := Lib.hid hb
  clear hb
  go_enter Tryz.func61, Tryz.ntmps61
  go_wp2_with (at_builtin; refine buf_bytes rfl _ _ 46 rfl Tryz.underlying46 rfl HB.out [34] _ (by simp [bytesV]) 1 rfl 1 _ rfl (by simp) (by omega) ?_; intro v1 w1 hb1; have HB1 := Lib.hid hb1; clear hb1)
  go_loopg [0, 12] (s.size) (fun m o i wr => ∃ k : Nat, k ≤ s.size ∧ m = s.size - k ∧ i = .int .i64 k ∧ Buf B w wr o (l ++ 34 :: escL (s.data.toList.take k)))
  case atStart => exact ⟨0, by omega, rfl, rfl, by simpa [escL] using HB1.out⟩
  case round =>
    obtain ⟨k, hk, rfl, rfl, hbk⟩ := hrel
    have HBK := Lib.hid hbk
    have hlen := esc_small l s k hs hl
    clear hbk
    by_cases hlt : k < s.size
    · by_cases b34 : s[k].toNat = 34
      · have g34 : ((s[k].toNat : Int) == 34) = true := by simp; omega
        have HX := Lib.hid (esc_next (l := l) hlt (x := [92, s[k]]) (by unfold escB; rw [if_pos (.inl b34)]))
        clear b34
        go_wp2_with (at_builtin; refine buf_bytes rfl _ _ 46 rfl Tryz.underlying46 rfl HBK.out [92, s[k]] _ (by simp [bytesV]) 2 rfl 2 _ rfl (by simp) (by omega) ?_; intro v2 w2 hb2; have HB2 := Lib.hid hb2; clear hb2)
        go_roundg (s.size - (k + 1))
        case measure => omega
        case rel => exact ⟨k + 1, by omega, rfl, by go_num, by rw [← HX.out]; exact HB2.out⟩
      · have g34 : ((s[k].toNat : Int) == 34) = false := by simp; omega
        by_cases b92 : s[k].toNat = 92
        · have g92 : ((s[k].toNat : Int) == 92) = true := by simp; omega
          have HX := Lib.hid (esc_next (l := l) hlt (x := [92, s[k]]) (by unfold escB; rw [if_pos (.inr b92)]))
          clear b34 b92
          go_wp2_with (at_builtin; refine buf_bytes rfl _ _ 46 rfl Tryz.underlying46 rfl HBK.out [92, s[k]] _ (by simp [bytesV]) 2 rfl 2 _ rfl (by simp) (by omega) ?_; intro v2 w2 hb2; have HB2 := Lib.hid hb2; clear hb2)
          go_roundg (s.size - (k + 1))
          case measure => omega
          case rel => exact ⟨k + 1, by omega, rfl, by go_num, by rw [← HX.out]; exact HB2.out⟩
        · have g92 : ((s[k].toNat : Int) == 92) = false := by simp; omega
          by_cases b10 : s[k].toNat = 10
          · have g10 : ((s[k].toNat : Int) == 10) = true := by simp; omega
            have HX := Lib.hid (esc_next (l := l) hlt (x := [92, 110]) (by unfold escB; rw [if_neg (by omega), if_pos b10]))
            clear b34 b92 b10
            go_wp2_with (at_builtin; refine buf_bytes rfl _ _ 46 rfl Tryz.underlying46 rfl HBK.out [92, 110] _ (by simp [bytesV]) 2 rfl 2 _ rfl (by simp) (by omega) ?_; intro v2 w2 hb2; have HB2 := Lib.hid hb2; clear hb2)
            go_roundg (s.size - (k + 1))
            case measure => omega
            case rel => exact ⟨k + 1, by omega, rfl, by go_num, by rw [← HX.out]; exact HB2.out⟩
          · have g10 : ((s[k].toNat : Int) == 10) = false := by simp; omega
            have HX := Lib.hid (esc_next (l := l) hlt (x := [s[k]]) (by unfold escB; rw [if_neg (by omega), if_neg b10]))
            clear b34 b92 b10
            go_wp2_with (at_builtin; refine buf_bytes rfl _ _ 46 rfl Tryz.underlying46 rfl HBK.out [s[k]] _ (by simp [bytesV]) 1 rfl 1 _ rfl (by simp) (by omega) ?_; intro v2 w2 hb2; have HB2 := Lib.hid hb2; clear hb2)
            go_roundg (s.size - (k + 1))
            case measure => omega
            case rel => exact ⟨k + 1, by omega, rfl, by go_num, by rw [← HX.out]; exact HB2.out⟩
    · have HX := Lib.hid (quo_done l s (k := k) (by omega))
      go_wp2_with (at_builtin; refine buf_bytes rfl _ _ 46 rfl Tryz.underlying46 rfl HBK.out [34] _ (by simp [bytesV]) 1 rfl 1 _ rfl (by simp) (by omega) ?_; intro v2 w2 hb2; have HB2 := Lib.hid hb2; clear hb2)
      go_ret
      exact ⟨_, rfl, by rw [← HX.out]; exact HB2.out⟩
end Go.Proofs.YtedabholcldgbaaGreatDoor

/- reader.appendForm: a form as it is written. -/
namespace Go.Proofs.YtedabholcldgbaaGreatDoor
open Go.RowKit Go.Deep

theorem byteCells_eq (l : List UInt8) : Lib.byteCells l = bytesV l := rfl
/-- The library's table, however the call goes on. -/
abbrev Tab (B : Nat) (w : World) : Prop := Lib.TabBelow Tryz.prog B w "internal/strconv.uint64pow10" .u64 Lib.pow10Tab
theorem appendInt_any (B : Nat) (n : Int) (h : I64 n) (v : Value) (l : List UInt8) (hl : l.length ≤ 1000000000) (w : World) (hb : Buf B w w v l) (ht : Tab B w) :
    Calls Tryz.prog 60 #[v, .int .i64 n, .int .i64 10] w fun e w' => BufEnd B w w' (l ++ Lib.itoa n) e :=
  (Tryz.strconv_AppendInt_10 B l.length n h.1 h.2 v (bytesV l) w hb.own hb.le (by omega) ht).mono fun e w' ⟨v', he, ho, hB, hK⟩ => ⟨v', he, by
    refine ⟨?_, hB, hK, Nat.le_trans hb.le hB.size⟩
    rw [List.length_append, bytesV_append]
    exact ho⟩
theorem In.low {B : Nat} {w w' : World} {t : T} (h : In w t) (hl : ∀ b, On t b → b < B) (hb : Below B w w') : In w' t := h.same _ (Nat.lt_succ_self _) fun b ho => hb.block b (hl b ho)
theorem box_kept {B : Nat} {w w1 : World} {t : T} {v : Value} {l : List UInt8} (h : Buf B (w.alloc (.cells #[.int .i64 t.kd, .int .i64 t.nn, .string t.tx, .slice t.ad t.ks.length t.cp] 29)) w1 v l) : Box4 w1 w.heap.size t :=
  h.kept _ _ (heap_alloc_new w _) (by simp) (by intro c fz e; injection e with _ e _; exact absurd e (by decide))
/-- The bytes ahead of Kid k. -/
def upTo (l : List UInt8) (ks : List T) (k : Nat) : List UInt8 := l ++ 40 :: joinB ((ks.take k).map fun t => txF t.form)
theorem upTo_next (l : List UInt8) (ks : List T) (k : Nat) (h : k < ks.length) : upTo l ks (k + 1) = upTo l ks k ++ ((if k = 0 then [] else [32]) ++ txF ks[k].form) := by
  unfold upTo
  rw [List.take_succ_eq_append_getElem h, List.map_append]
  simp only [List.map_cons, List.map_nil]
  rw [joinB_snoc, List.length_map, List.length_take, Nat.min_eq_left (by omega)]
  simp
theorem upTo_done (l : List UInt8) (t : T) (k : Nat) (h : t.ks.length ≤ k) (h0 : t.kd ≠ 0) (h1 : t.kd ≠ 1) (h2 : t.kd ≠ 2) : upTo l t.ks k ++ [41] = l ++ txF t.form := by
  unfold upTo
  rw [List.take_of_length_le h, txF_eq, T.form_kd, T.form_ks, if_neg h0, if_neg h1, if_neg h2, List.map_map]
  simp [Function.comp_def]
theorem joinB_take (ks : List T) (k : Nat) (hf : ∀ t ∈ ks, fieldsF t.form = true) : (joinB ((ks.take k).map fun t => txF t.form)).length ≤ 4010 * szL ((ks.take k).map T.form) := by
  have := joinB_len ((ks.take k).map T.form) fun f hm => by
    obtain ⟨t, ht, rfl⟩ := List.mem_map.1 hm
    exact txF_len (hf t (List.mem_of_mem_take ht))
  rw [List.map_map] at this
  simp only [Function.comp_def] at this
  omega
theorem szL_take_le : ∀ (l : List Fm) (k : Nat) (h : k < l.length), szL (l.take k) + szF l[k] ≤ szL l
  | f :: fs, 0, _ => by simp [szL]
  | f :: fs, k + 1, h => by
    have := szL_take_le fs k (by simpa using h)
    simp only [List.take_succ_cons, szL, List.getElem_cons_succ]
    omega
theorem szL_takes (l : List Fm) (k : Nat) : szL (l.take k) ≤ szL l := by
  induction l generalizing k with
  | nil => simp [szL]
  | cons f fs ih => cases k with
    | zero => simp [szL]
    | succ k => have := ih k; simp only [List.take_succ_cons, szL]; omega

set_option maxHeartbeats 4000000 in
set_option maxRecDepth 100000 in
theorem appendForm_any (B : Nat) (n : Nat) : ∀ t : T, SizeOf.sizeOf t < n → ∀ (v : Value) (l : List UInt8) (w : World), In w t → (∀ b, On t b → b < B) → Buf B w w v l → Tab B w → fieldsF t.form = true → l.length + 4010 * szF t.form ≤ 1000000000 →
    Calls Tryz.prog 31 #[v, t.val] w fun e w' => BufEnd B w w' (l ++ txF t.form) e := by
  induction n with
  | zero => intro t h; omega
  | succ n ih =>
    intro t hn v l w hin hon hb htab hf hlen
    have HB := Lib.hid hb
    have HF := Lib.hid hf
    have HT := Lib.hid htab
    rw [fieldsF_eq, Bool.and_eq_true] at hf
    have hal := alone_cases hf.1
    have hle := hb.le
    have hpos : 1 ≤ szF t.form := by rw [szF_eq]; omega
    rw [txF_eq]
    simp only [T.form_kd, T.form_nn, T.form_tx] at hal ⊢
    by_cases k0 : t.kd = 0
    · rw [if_pos k0]
      have b0 : (t.kd == 0) = true := by simpa using k0
      have HA := Lib.hid fun (W : World) (h : Buf B W W v l) (h2 : Tab B W) => appendInt_any B t.nn hin.ok.nn v l (by omega) W h h2
      clear hal ih k0 hf hb htab
      go_enter Tryz.func31, Tryz.ntmps31
      go_wp2_with (go_at_call 60; refine (HA.out _ ((HB.out.alloc _).back) (HT.out.on ((Below.refl _ _).alloc hle _))).mono ?_; rintro e w2 ⟨v2, rfl, hb2⟩; have HB2 := Lib.hid hb2; clear hb2)
      go_ret
      exact ⟨_, rfl, (HB.out.alloc _).trans HB2.out⟩
    · rw [if_neg k0]
      have b0 : (t.kd == 0) = false := by simpa using k0
      by_cases k1 : t.kd = 1
      · rw [if_pos k1]
        have b1 : (t.kd == 1) = true := by simpa using k1
        have hw : t.tx.size ≤ 30 := by
          rcases hal with h | h | h | h
          · omega
          · exact (word_size h.2.2.2).2
          · omega
          · omega
        clear hal ih k0 k1 hf hb htab
        go_enter Tryz.func31, Tryz.ntmps31
        go_wp2_with (at_builtin; refine buf_text rfl _ _ 46 9 rfl Tryz.underlying46 Tryz.underlying9 rfl (HB.out.alloc _) t.tx rfl (by omega) ?_; intro v2 w2 hb2; have HB2 := Lib.hid hb2; clear hb2)
        go_ret
        exact ⟨_, rfl, HB2.out⟩
      · rw [if_neg k1]
        have b1 : (t.kd == 1) = false := by simpa using k1
        by_cases k2 : t.kd = 2
        · rw [if_pos k2]
          have b2 : (t.kd == 2) = true := by simpa using k2
          have hw : t.tx.size ≤ 2000 := by
            rcases hal with h | h | h | h
            · omega
            · omega
            · exact text_size h.2.2.2
            · omega
          have HA := Lib.hid fun (W : World) (h : Buf B W W v l) => appendText_any B t.tx hw v l (by omega) W h
          clear hal ih k0 k1 k2 hf hb htab
          go_enter Tryz.func31, Tryz.ntmps31
          go_wp2_with (go_at_call 61; refine (HA.out _ ((HB.out.alloc _).back)).mono ?_; rintro e w2 ⟨v2, rfl, hb2⟩; have HB2 := Lib.hid hb2; clear hb2)
          go_ret
          exact ⟨_, rfl, (HB.out.alloc _).trans HB2.out⟩
        · rw [if_neg k2]
          have b2 : (t.kd == 2) = false := by simpa using k2
          have k3 : t.kd = 3 := by
            rcases hal with h | h | h | h
            · omega
            · omega
            · omega
            · exact h.1
          have hks : t.form.kids = t.ks.map T.form := by unfold Fm.kids; rw [T.form_kd, if_pos k3, T.form_ks]
          have hfk : ∀ x ∈ t.ks, fieldsF x.form = true := fun x hx => fieldsL_mem hf.2 (by rw [hks]; exact List.mem_map_of_mem hx)
          have hsz : szF t.form = 1 + szL (t.ks.map T.form) := by rw [szF_eq, hks]
          have n1 := Nat.le_trans hin.ok.le hin.ok.cp
          unfold maxLen at n1
          have HI := Lib.hid hin
          have HO := Lib.hid hon
          obtain ⟨a, ha⟩ : ∃ a, t.ad = a := ⟨_, rfl⟩
          have HK : Hid (∀ W, Below B w W → InL W a 0 t.ks) := Lib.hid fun W h => by rw [← ha]; exact (hin.low hon h).inL
          have HAD := Lib.hid ha
          clear ha
          have HD := Lib.hid fun (k : Nat) (h : t.ks.length ≤ k) => upTo_done l t k h k0 k1 k2
          have HFK := Lib.hid hfk
          have IH := Lib.hid ih
          have HL : Hid (∀ k, k ≤ t.ks.length → (upTo l t.ks k).length ≤ l.length + 1 + 4010 * szL ((t.ks.map T.form).take k)) := Lib.hid fun k _ => by
            have := joinB_take t.ks k hfk
            rw [← List.map_take]
            simp only [upTo, List.length_append, List.length_cons]
            omega
          have HS : Hid (∀ k (h : k < t.ks.length), szL ((t.ks.map T.form).take k) + szF t.ks[k].form ≤ szL (t.ks.map T.form)) := Lib.hid fun k h => by
            have := szL_take_le (t.ks.map T.form) k (by simpa using h)
            simpa using this
          have HS2 : Hid (∀ k, szL ((t.ks.map T.form).take k) ≤ szL (t.ks.map T.form)) := Lib.hid fun k => szL_takes _ _
          have heq : l ++ 40 :: (joinB (t.form.ks.map txF) ++ [41]) = l ++ txF t.form := by
            rw [txF_eq, T.form_kd, if_neg k0, if_neg k1, if_neg k2]
          rw [heq]
          clear hal ih k0 k1 k2 k3 hf hb htab hks hfk hin hon heq
          go_enter Tryz.func31, Tryz.ntmps31
          go_wp2_with (at_builtin; (refine buf_bytes rfl _ _ 46 rfl Tryz.underlying46 rfl (HB.out.alloc _).back [40] _ (by simp [bytesV]) 1 rfl 1 _ rfl (by simp) (by omega) ?_; intro v1 w1 hb1; obtain ⟨c0, c1, c2, c3⟩ := (box_kept hb1).cells; rw [HAD.out] at c3; have HB1 := Lib.hid ((HB.out.alloc _).trans hb1); clear hb1))
          go_loopg [0, 33] (t.ks.length) (fun m o i wr => ∃ k : Nat, k ≤ t.ks.length ∧ m = t.ks.length - k ∧ i = .int .i64 k ∧ Buf B w wr o (upTo l t.ks k))
          case atStart => exact ⟨0, by omega, rfl, rfl, by simpa [upTo, joinB] using HB1.out⟩
          case round =>
            obtain ⟨k, hk, rfl, rfl, hbk⟩ := hrel
            have HBK := Lib.hid hbk
            have hlk := HL.out k hk
            have hs2 := HS2.out k
            clear hbk
            by_cases hlt : k < t.ks.length
            · have hsk := HS.out k hlt
              obtain ⟨⟨b, o, rfl, hx0, hx1, hx2, hx3⟩, hink⟩ := (HK.out _ HBK.out.below).at k hlt
              have HX := Lib.hid (upTo_next l t.ks k hlt)
              have hmk := List.getElem_mem hlt
              have HR := Lib.hid fun (v' : Value) (l' : List UInt8) (W : World) (h : Buf B w W v' l') (hl' : l'.length + 4010 * szF t.ks[k].form ≤ 1000000000) =>
                IH.out t.ks[k] (by have := T.kid_lt hmk; omega) v' l' W ((HI.out.low HO.out h.below).kid k hlt) (fun b hb => HO.out b (.kid hmk hb)) h.back (HT.out.on h.below) (HFK.out _ hmk) hl'
              have lb : b < wr.heap.size := World.block_lt_of_cell? _ _ hx0
              clear hink
              by_cases hk0 : k = 0
              · subst hk0
                rw [if_pos rfl] at HX
                simp only [List.nil_append] at HX
                simp only [Nat.zero_mul, Nat.add_zero] at hx0 hx1 hx2 hx3
                go_wp2_with (go_at_call 31; refine (HR.out _ _ _ (HBK.out.alloc _) (by omega)).mono ?_; rintro e w2 ⟨v2, rfl, hb2⟩; have HB2 := Lib.hid hb2; clear hb2)
                go_roundg (t.ks.length - 1)
                case measure => omega
                case rel => exact ⟨1, by omega, rfl, by go_num, by rw [HX.out]; exact (HBK.out.alloc _).trans HB2.out⟩
              · rw [if_neg hk0] at HX
                have hkp : (0 : Int) < (k : Int) := by omega
                go_wp2_with (first
                  | (at_builtin; refine buf_bytes rfl _ _ 46 rfl Tryz.underlying46 rfl (HBK.out.alloc _).back [32] _ (by simp [bytesV]) 1 rfl 1 _ rfl (by simp) (by omega) ?_; intro v1 w1 hb1; obtain ⟨k0, k1, k2, k3⟩ := (box_kept hb1).cells; have HBM := Lib.hid ((HBK.out.alloc _).trans hb1); clear hb1)
                  | (go_at_call 31; refine (HR.out _ _ _ HBM.out (by simp only [List.length_append, List.length_cons, List.length_nil]; omega)).mono ?_; rintro e w2 ⟨v2, rfl, hb2⟩; have HB2 := Lib.hid hb2; clear hb2))
                go_roundg (t.ks.length - (k + 1))
                case measure => omega
                case rel => exact ⟨k + 1, by omega, rfl, by go_num, by rw [HX.out, ← List.append_assoc]; exact HBM.out.trans HB2.out⟩
            · have HX := Lib.hid (HD.out k (by omega))
              go_wp2_with (at_builtin; refine buf_bytes rfl _ _ 46 rfl Tryz.underlying46 rfl HBK.out [41] _ (by simp [bytesV]) 1 rfl 1 _ rfl (by simp) (by omega) ?_; intro v2 w2 hb2; have HB2 := Lib.hid hb2; clear hb2)
              go_ret
              exact ⟨_, rfl, by rw [← HX.out]; exact HB2.out⟩
theorem appendForm_T (B : Nat) (t : T) (v : Value) (l : List UInt8) (w : World) (hin : In w t) (hon : ∀ b, On t b → b < B) (hb : Buf B w w v l) (ht : Tab B w) (hf : fieldsF t.form = true) (hl : l.length + 4010 * szF t.form ≤ 1000000000) :
    Calls Tryz.prog 31 #[v, t.val] w fun e w' => BufEnd B w w' (l ++ txF t.form) e :=
  appendForm_any B _ t (Nat.lt_succ_self _) v l w hin hon hb ht hf hl
end Go.Proofs.YtedabholcldgbaaGreatDoor

/- reader.Write and reader.Sum. -/
namespace Go.Proofs.YtedabholcldgbaaGreatDoor
open Go.RowKit Go.Deep

theorem Tab.mono {B B' : Nat} {w : World} (h : Tab B w) (hB : B ≤ B') : Tab B' w := fun w' hb => h w' (hb.mono hB)
theorem Tab.next {w w' : World} (h : Tab w.heap.size w) (hb : Below w.heap.size w w') : Tab w'.heap.size w' := Tab.mono (h.on hb) hb.size
theorem conv_buf {B : Nat} {w0 w : World} {v : Value} {l : List UInt8} (h : Buf B w0 w v l) : (convert 46 9 v).run Tryz.prog w = .ok (.string ⟨l.toArray⟩) w := conv_row h.own 0
theorem wrF_no {f : Fm} (h : validF f = false) : wrF f = [] := by unfold wrF; rw [if_neg (by rw [h]; simp)]
theorem wrF_yes {f : Fm} (h : validF f = true) : wrF f = txF f := by unfold wrF; rw [if_pos h]
set_option maxHeartbeats 1000000 in
theorem write_any (t : T) (w : World) (hin : In w t) (hb : szF t.form ≤ 4611686018427387903) (ht : Tab w.heap.size w) :
    Calls Tryz.prog 140 #[t.val] w fun e w' => e = .returned (.string ⟨(wrF t.form).toArray⟩) ∧ Below w.heap.size w w' := by
  have HV := Lib.hid fun W (h : In W t) => valid_any t W h hb
  cases hv : validF t.form with
  | false =>
    rw [wrF_no hv]
    rw [hv] at HV
    clear hv
    go_enter Tryz.func140, Tryz.ntmps140
    go_wp2_with (go_at_call 30; refine (HV.out _ (hin.alloc _)).mono ?_; rintro e w2 ⟨rfl, hB⟩)
    go_ret
    exact ⟨rfl, up (bel1 _ _) hB⟩
  | true =>
    rw [wrF_yes hv]
    obtain ⟨h1, _, h3⟩ := valid_parts hv
    have HA := Lib.hid fun W (h : In W t) (h2 : Tab W.heap.size W) => appendForm_T W.heap.size t (.slice none 0 0) [] W h (fun b hb => h.lt hb) (Buf.start (Nat.le_refl _)) h2 h3 (by simp; omega)
    rw [hv] at HV
    simp only [List.nil_append] at HA
    have HI := Lib.hid hin
    have HT := Lib.hid ht
    clear hv h3 hin ht
    go_enter Tryz.func140, Tryz.ntmps140
    go_wp2_with (first
      | (go_at_call 30; refine (HV.out _ (HI.out.alloc _)).mono ?_; rintro e w2 ⟨rfl, hB⟩; obtain ⟨c0, c1, c2, c3⟩ := Box4.cells (w := w2) (b := w.heap.size) (t := t) ((hB.block _ (by simp)).trans (heap_alloc_new w _)); have HB := Lib.hid (up (bel1 _ _) hB); clear hB)
      | (go_at_call 31; refine (HA.out _ (HI.out.below HB.out) (HT.out.next HB.out)).mono ?_; rintro e w3 ⟨v3, rfl, hb3⟩; have hcv := conv_buf hb3; have HB3 := Lib.hid hb3; clear hb3))
    go_ret
    exact ⟨rfl, up HB.out HB3.out.below⟩

/-- The checksum of bytes. -/
def sumL (l : List UInt8) : Int := l.foldl (fun n b => (31 * n + (b.toNat : Int)) % 1000003) 7
theorem sumL_snoc (l : List UInt8) (b : UInt8) : sumL (l ++ [b]) = (31 * sumL l + (b.toNat : Int)) % 1000003 := by simp [sumL]
theorem sumL_rng (l : List UInt8) : 0 ≤ sumL l ∧ sumL l ≤ 1000003 := by
  rcases List.eq_nil_or_concat l with rfl | ⟨l, b, rfl⟩
  · simp [sumL]
  · rw [List.concat_eq_append, sumL_snoc]; omega
theorem sumL_next {d : ByteArray} {k : Nat} (h : k < d.size) : sumL (d.data.toList.take (k + 1)) = (31 * sumL (d.data.toList.take k) + (d[k].toNat : Int)) % 1000003 := by
  rw [take_byte d k h, sumL_snoc]
end Go.Proofs.YtedabholcldgbaaGreatDoor

/- The document's own text of a form, and Write. -/
namespace Go.Proofs.YtedabholcldgbaaGreatDoor
open Go.RowKit Go.Deep

theorem itoa_any (n : Int) (h : I64 n) (w : World) (ht : Tab w.heap.size w) :
    Calls Tryz.prog 95 #[.int .i64 n] w fun e w' => e = .returned (.string ⟨(Lib.itoa n).toArray⟩) ∧ Below w.heap.size w w' :=
  (Tryz.strconv_Itoa n h.1 h.2 w (Lib.TabBelow.here ht)).mono fun e w' ⟨he, k, os, hw⟩ => ⟨he, by rw [hw]; exact Lib.below_grow _ _ (Nat.le_refl _) _ _⟩
/-- What a slice that was just laid owns. -/
theorem Buf.lit (w : World) (l : List UInt8) (cs : Array Value) (h : cs.toList = bytesV l) (n : Nat) (hn : l.length = n) (hm : n ≤ 1000000) : Buf w.heap.size w (w.alloc (.cells cs 5)) (.slice (some ⟨w.heap.size, 0, none⟩) n n) l := by
  have hs : cs.size = n * 1 := by
    have := congrArg List.length h
    simp [bytesV] at this
    omega
  have := World.ownsRow_lit (e := 5) (base := w.heap.size) (size := 1) w cs n (Nat.le_refl _) (by unfold maxLen; omega) hs
  rw [h] at this
  exact ⟨by rw [hn]; exact this, bel1 _ _, (Lib.OthersKept.refl _ _ _).alloc _, by simp⟩
theorem ret_bytes {a b : List UInt8} (h : a = b) : Ending.returned (.string ⟨a.toArray⟩) = .returned (.string ⟨b.toArray⟩) := by rw [h]
theorem esc_next0 {s : ByteArray} {k : Nat} (h : k < s.size) {x : List UInt8} (hx : escB s[k] = x) : escL (s.data.toList.take k) ++ x = escL (s.data.toList.take (k + 1)) := by
  rw [take_byte s k h, escL_snoc, hx]
theorem esc_small0 (s : ByteArray) (k : Nat) (hs : s.size ≤ 2000) : (escL (s.data.toList.take k)).length ≤ 10000 := by
  have h1 := escL_len (s.data.toList.take k)
  have h2 : (s.data.toList.take k).length ≤ s.data.toList.length := List.length_take_le' _ _
  have e : s.data.toList.length = s.size := by simp
  omega
set_option maxHeartbeats 4000000 in
set_option maxRecDepth 100000 in
theorem rtxt_any (n : Nat) : ∀ t : T, SizeOf.sizeOf t < n → ∀ w, In w t → Tab w.heap.size w → fieldsF t.form = true → szF t.form ≤ 20000 →
    Calls Tryz.prog 62 #[t.val] w fun e w' => e = .returned (.string ⟨(txF t.form).toArray⟩) ∧ Below w.heap.size w w' := by
  induction n with
  | zero => intro t h; omega
  | succ n ih =>
    intro t hn w hin htab hf hsz
    have HF := Lib.hid hf
    have HT := Lib.hid htab
    have HI := Lib.hid hin
    rw [fieldsF_eq, Bool.and_eq_true] at hf
    have hal := alone_cases hf.1
    have htx := txF_eq t.form
    simp only [T.form_kd, T.form_nn, T.form_tx] at hal htx
    by_cases k0 : t.kd = 0
    · rw [if_pos k0] at htx
      have b0 : (t.kd == 0) = true := by simpa using k0
      have HX := Lib.hid htx
      have HA := Lib.hid fun (W : World) (h2 : Tab W.heap.size W) => itoa_any t.nn hin.ok.nn W h2
      clear hal ih k0 hf htab hin htx
      go_enter Tryz.func62, Tryz.ntmps62
      go_wp2_with (go_at_call 95; refine (HA.out _ (HT.out.next (bel1 _ _))).mono ?_; rintro e w2 ⟨rfl, hB⟩; have HB := Lib.hid (up (bel1 _ _) hB); clear hB)
      go_ret
      exact ⟨ret_bytes HX.out.symm, HB.out⟩
    · rw [if_neg k0] at htx
      have b0 : (t.kd == 0) = false := by simpa using k0
      by_cases k1 : t.kd = 1
      · rw [if_pos k1] at htx
        have b1 : (t.kd == 1) = true := by simpa using k1
        have HX := Lib.hid htx
        clear hal ih k0 k1 hf htab hin htx
        go_enter Tryz.func62, Tryz.ntmps62
        go_wp2_with fail
        go_ret
        exact ⟨ret_str (by rw [HX.out]), bel1 _ _⟩
      · rw [if_neg k1] at htx
        have b1 : (t.kd == 1) = false := by simpa using k1
        by_cases k2 : t.kd = 2
        · rw [if_pos k2] at htx
          have b2 : (t.kd == 2) = true := by simpa using k2
          have hw : t.tx.size ≤ 2000 := by
            rcases hal with h | h | h | h
            · omega
            · omega
            · exact text_size h.2.2.2
            · omega
          have HX := Lib.hid htx
          have K0 := Lib.hid (Boxed.start w t)
          clear hal ih k0 k1 k2 hf htab hin htx
          go_enter Tryz.func62, Tryz.ntmps62
          go_wp2_with fail
          go_loopg [3, 4] (t.tx.size) (fun m b i wr => ∃ k : Nat, k ≤ t.tx.size ∧ m = t.tx.size - k ∧ i = .int .i64 k ∧ Buf (w.heap.size + 1) (w.alloc (.cells #[.int .i64 t.kd, .int .i64 t.nn, .string t.tx, .slice t.ad t.ks.length t.cp] 29)) wr b (escL (t.tx.data.toList.take k)))
          case atStart => exact ⟨0, by omega, rfl, rfl, by simpa [escL] using Buf.start (B := w.heap.size + 1) (w := w.alloc (.cells #[.int .i64 t.kd, .int .i64 t.nn, .string t.tx, .slice t.ad t.ks.length t.cp] 29)) (by simp)⟩
          case round =>
            obtain ⟨k, hk, rfl, rfl, hbk⟩ := hrel
            obtain ⟨c0, c1, c2, c3⟩ := Box4.cells (w := wr) (b := w.heap.size) (t := t) ((hbk.below.block _ (by omega)).trans K0.out.1)
            have HBK := Lib.hid hbk
            have hlen := esc_small0 t.tx k hw
            clear hbk
            by_cases hlt : k < t.tx.size
            · by_cases b10 : t.tx[k].toNat = 10
              · have g10 : ((t.tx[k].toNat : Int) == 10) = true := by simp; omega
                have HX := Lib.hid (esc_next0 hlt (x := [92, 110]) (by unfold escB; rw [if_neg (by omega), if_pos b10]))
                clear b10
                go_wp2_with (at_builtin; refine buf_bytes rfl _ _ 46 rfl Tryz.underlying46 rfl HBK.out [92, 110] _ (by simp [bytesV]) 2 rfl 2 _ rfl (by simp) (by omega) ?_; intro v2 w2 hb2; have HB2 := Lib.hid hb2; clear hb2)
                go_roundg (t.tx.size - (k + 1))
                case measure => omega
                case rel => exact ⟨k + 1, by omega, rfl, by go_num, by rw [← HX.out]; exact HB2.out⟩
              · have g10 : ((t.tx[k].toNat : Int) == 10) = false := by simp; omega
                by_cases b34 : t.tx[k].toNat = 34
                · have g34 : ((t.tx[k].toNat : Int) == 34) = true := by simp; omega
                  have HX := Lib.hid (esc_next0 hlt (x := [92, t.tx[k]]) (by unfold escB; rw [if_pos (.inl b34)]))
                  clear b10 b34
                  go_wp2_with (at_builtin; refine buf_bytes rfl _ _ 46 rfl Tryz.underlying46 rfl HBK.out [92, t.tx[k]] _ (by simp [bytesV]) 2 rfl 2 _ rfl (by simp) (by omega) ?_; intro v2 w2 hb2; have HB2 := Lib.hid hb2; clear hb2)
                  go_roundg (t.tx.size - (k + 1))
                  case measure => omega
                  case rel => exact ⟨k + 1, by omega, rfl, by go_num, by rw [← HX.out]; exact HB2.out⟩
                · have g34 : ((t.tx[k].toNat : Int) == 34) = false := by simp; omega
                  by_cases b92 : t.tx[k].toNat = 92
                  · have g92 : ((t.tx[k].toNat : Int) == 92) = true := by simp; omega
                    have HX := Lib.hid (esc_next0 hlt (x := [92, t.tx[k]]) (by unfold escB; rw [if_pos (.inr b92)]))
                    clear b10 b34 b92
                    go_wp2_with (at_builtin; refine buf_bytes rfl _ _ 46 rfl Tryz.underlying46 rfl HBK.out [92, t.tx[k]] _ (by simp [bytesV]) 2 rfl 2 _ rfl (by simp) (by omega) ?_; intro v2 w2 hb2; have HB2 := Lib.hid hb2; clear hb2)
                    go_roundg (t.tx.size - (k + 1))
                    case measure => omega
                    case rel => exact ⟨k + 1, by omega, rfl, by go_num, by rw [← HX.out]; exact HB2.out⟩
                  · have g92 : ((t.tx[k].toNat : Int) == 92) = false := by simp; omega
                    have HX := Lib.hid (esc_next0 hlt (x := [t.tx[k]]) (by unfold escB; rw [if_neg (by omega), if_neg b10]))
                    clear b10 b34 b92
                    go_wp2_with (at_builtin; refine buf_bytes rfl _ _ 46 rfl Tryz.underlying46 rfl HBK.out [t.tx[k]] _ (by simp [bytesV]) 1 rfl 1 _ rfl (by simp) (by omega) ?_; intro v2 w2 hb2; have HB2 := Lib.hid hb2; clear hb2)
                    go_roundg (t.tx.size - (k + 1))
                    case measure => omega
                    case rel => exact ⟨k + 1, by omega, rfl, by go_num, by rw [← HX.out]; exact HB2.out⟩
            · have he : t.tx.data.toList.take k = t.tx.data.toList := List.take_of_length_le (by simp; omega)
              rw [he] at HBK hlen
              obtain ⟨d, hd⟩ : ∃ d : ByteArray, d = ⟨(escL t.tx.data.toList).toArray⟩ := ⟨_, rfl⟩
              have hcv := conv_buf HBK.out
              rw [← hd] at hcv
              have hds : d.size ≤ 10000 := by rw [hd]; show (escL t.tx.data.toList).toArray.size ≤ 10000; simpa using hlen
              have HD := Lib.hid hd
              clear he hd
              go_wp2_with fail
              go_ret
              exact ⟨ret_str (by rw [HX.out, HD.out]; apply ByteArray.ext; simp [quoL]), (K0.out.2.trans (HBK.out.below.mono (by omega)))⟩
        · rw [if_neg k2] at htx
          have b2 : (t.kd == 2) = false := by simpa using k2
          have k3 : t.kd = 3 := by
            rcases hal with h | h | h | h
            · omega
            · omega
            · omega
            · exact h.1
          have hks : t.form.kids = t.ks.map T.form := by unfold Fm.kids; rw [T.form_kd, if_pos k3, T.form_ks]
          have hfk : ∀ x ∈ t.ks, fieldsF x.form = true := fun x hx => fieldsL_mem hf.2 (by rw [hks]; exact List.mem_map_of_mem hx)
          have hszl : szF t.form = 1 + szL (t.ks.map T.form) := by rw [szF_eq, hks]
          rw [hszl] at hsz
          have n1 := Nat.le_trans hin.ok.le hin.ok.cp
          unfold maxLen at n1
          have HFK := Lib.hid hfk
          have IH := Lib.hid ih
          obtain ⟨a, ha⟩ : ∃ a, t.ad = a := ⟨_, rfl⟩
          have HK : Hid (∀ W, Below w.heap.size w W → InL W a 0 t.ks) := Lib.hid fun W h => by rw [← ha]; exact (hin.below h).inL
          have HAD := Lib.hid ha
          have HD := Lib.hid fun (k : Nat) (h : t.ks.length ≤ k) => upTo_done [] t k h k0 k1 k2
          have HL : Hid (∀ k, k ≤ t.ks.length → (upTo [] t.ks k).length ≤ 1 + 4010 * szL ((t.ks.map T.form).take k)) := Lib.hid fun k _ => by
            have := joinB_take t.ks k hfk
            rw [← List.map_take]
            simp only [upTo, List.length_append, List.length_cons, List.length_nil]
            omega
          have HS : Hid (∀ k (h : k < t.ks.length), szL ((t.ks.map T.form).take k) + szF t.ks[k].form ≤ szL (t.ks.map T.form)) := Lib.hid fun k h => by
            have := szL_take_le (t.ks.map T.form) k (by simpa using h)
            simpa using this
          have HS2 : Hid (∀ k, szL ((t.ks.map T.form).take k) ≤ szL (t.ks.map T.form)) := Lib.hid fun k => szL_takes _ _
          have K0 := Lib.hid (Boxed.start w t)
          have KL := Lib.hid (Buf.lit (w.alloc (.cells #[.int .i64 t.kd, .int .i64 t.nn, .string t.tx, .slice t.ad t.ks.length t.cp] 29)) [40] #[.int .u8 40] (by simp [bytesV]) 1 rfl (by omega))
          rw [show (w.alloc (.cells #[.int .i64 t.kd, .int .i64 t.nn, .string t.tx, .slice t.ad t.ks.length t.cp] 29)).heap.size = w.heap.size + 1 by simp] at KL
          clear hal ih k0 k1 k2 k3 hf htab hks hfk hin htx ha hszl
          go_enter Tryz.func62, Tryz.ntmps62
          go_wp2_with fail
          go_loopg [6, 7] (t.ks.length) (fun m b i wr => ∃ k : Nat, k ≤ t.ks.length ∧ m = t.ks.length - k ∧ i = .int .i64 k ∧ Buf (w.heap.size + 1) (w.alloc (.cells #[.int .i64 t.kd, .int .i64 t.nn, .string t.tx, .slice t.ad t.ks.length t.cp] 29)) wr b (upTo [] t.ks k))
          case atStart => exact ⟨0, by omega, rfl, rfl, by simpa [upTo, joinB] using KL.out⟩
          case round =>
            obtain ⟨k, hk, rfl, rfl, hbk⟩ := hrel
            have hbw : Below w.heap.size w wr := K0.out.2.trans (hbk.below.mono (by omega))
            obtain ⟨c0, c1, c2, c3⟩ := box_cells (W := wr) (K := w.heap.size) (t := t) ((hbk.below.block _ (by omega)).trans K0.out.1) HAD.out
            have HBW := Lib.hid hbw
            have HBK := Lib.hid hbk
            have hlk := HL.out k hk
            have hs2 := HS2.out k
            clear hbk hbw
            by_cases hlt : k < t.ks.length
            · have hsk := HS.out k hlt
              obtain ⟨⟨b, o, rfl, hx0, hx1, hx2, hx3⟩, hink⟩ := (HK.out _ HBW.out).at k hlt
              have HX := Lib.hid (upTo_next [] t.ks k hlt)
              have hmk := List.getElem_mem hlt
              have HR := Lib.hid fun (W : World) (h : Below w.heap.size w W) => IH.out t.ks[k] (by have := T.kid_lt hmk; omega) W ((HK.out _ h).at k hlt).2 (Tab.mono (HT.out.on h) h.size) (HFK.out _ hmk) (by omega)
              have hxl := txF_len (HFK.out _ hmk)
              obtain ⟨d, hd⟩ : ∃ d : ByteArray, d = ⟨(txF t.ks[k].form).toArray⟩ := ⟨_, rfl⟩
              have hdl : d.data.toList = txF t.ks[k].form := by rw [hd]
              have hds : d.size ≤ 4010 * szF t.ks[k].form := by
                have e : d.size = d.data.toList.length := by simp
                rw [e, hdl]; omega
              rw [← hd] at HR
              have HDL := Lib.hid hdl
              have lb : b < wr.heap.size := World.block_lt_of_cell? _ _ hx0
              clear hink hd hdl hxl
              by_cases hk0 : k = 0
              · subst hk0
                rw [if_pos rfl] at HX
                simp only [List.nil_append] at HX
                simp only [Nat.zero_mul, Nat.add_zero] at hx0 hx1 hx2 hx3
                go_wp2_with (first
                  | (go_at_call 62; refine (HR.out _ HBW.out).mono ?_; rintro e w2 ⟨rfl, hB⟩; have HB := Lib.hid hB; clear hB)
                  | (at_builtin; refine buf_text rfl _ _ 46 9 rfl Tryz.underlying46 Tryz.underlying9 rfl (HBK.out.next HB.out) d rfl (by omega) ?_; intro v3 w3 hb3; have HB3 := Lib.hid hb3; clear hb3))
                go_roundg (t.ks.length - 1)
                case measure => omega
                case rel => exact ⟨1, by omega, rfl, by go_num, by rw [HX.out, ← HDL.out]; exact HB3.out⟩
              · rw [if_neg hk0] at HX
                have hkp : (0 : Int) < (k : Int) := by omega
                go_wp2_with (first
                  | (at_builtin; refine buf_bytes rfl (.tmp 63) (.tmp 64) 46 rfl Tryz.underlying46 rfl HBK.out [32] _ (by simp [bytesV]) 1 rfl 1 _ rfl (by simp) (by omega) ?_; intro v1 w1 hb1; have HBM := Lib.hid hb1; have HBW1 := Lib.hid (show Below w.heap.size w w1 from K0.out.2.trans (hb1.below.mono (by omega))); obtain ⟨c0, c1, c2, c3⟩ := box_cells (W := w1) (K := w.heap.size) (t := t) ((hb1.below.block _ (by omega)).trans K0.out.1) HAD.out; obtain ⟨⟨b', o', hbo, y0, y1, y2, y3⟩, _⟩ := (HK.out _ HBW1.out).at k hlt; injection hbo with hbo; injection hbo with hb' ho' _; subst hb' ho'; clear hb1)
                  | (go_at_call 62; refine (HR.out _ HBW1.out).mono ?_; rintro e w2 ⟨rfl, hB⟩; have HB := Lib.hid hB; clear hB)
                  | (at_builtin; refine buf_text rfl (.tmp 66) (.tmp 72) 46 9 rfl Tryz.underlying46 Tryz.underlying9 rfl (HBM.out.next HB.out) d rfl (by simp only [List.length_append, List.length_cons, List.length_nil]; omega) ?_; intro v3 w3 hb3; have HB3 := Lib.hid hb3; clear hb3))
                go_roundg (t.ks.length - (k + 1))
                case measure => omega
                case rel => exact ⟨k + 1, by omega, rfl, by go_num, by rw [HX.out, ← List.append_assoc, ← HDL.out]; exact HB3.out⟩
            · have HX := Lib.hid (HD.out k (by omega))
              go_wp2_with (at_builtin; refine buf_bytes rfl _ _ 46 rfl Tryz.underlying46 rfl HBK.out [41] _ (by simp [bytesV]) 1 rfl 1 _ rfl (by simp) (by omega) ?_; intro v2 w2 hb2; have hcv := conv_buf hb2; have HB2 := Lib.hid hb2; clear hb2)
              go_ret
              exact ⟨ret_bytes (by rw [HX.out]; rfl), K0.out.2.trans (HB2.out.below.mono (by omega))⟩
theorem rtxt_T (t : T) (w : World) (hin : In w t) (ht : Tab w.heap.size w) (hf : fieldsF t.form = true) (hs : szF t.form ≤ 20000) :
    Calls Tryz.prog 62 #[t.val] w fun e w' => e = .returned (.string ⟨(txF t.form).toArray⟩) ∧ Below w.heap.size w w' := rtxt_any _ t (Nat.lt_succ_self _) w hin ht hf hs
set_option maxHeartbeats 1000000 in
theorem rwrite_any (t : T) (w : World) (hin : In w t) (hb : szF t.form ≤ 4611686018427387903) (ht : Tab w.heap.size w) :
    Calls Tryz.prog 32 #[t.val] w fun e w' => e = .returned (.string ⟨(wrF t.form).toArray⟩) ∧ Below w.heap.size w w' := by
  have HV := Lib.hid fun W (h : In W t) => rvalid_any t W h hb
  cases hv : validF t.form with
  | false =>
    rw [wrF_no hv]
    rw [hv] at HV
    clear hv
    go_enter Tryz.func32, Tryz.ntmps32
    go_wp2_with (go_at_call 46; refine (HV.out _ (hin.alloc _)).mono ?_; rintro e w2 ⟨rfl, hB⟩)
    go_ret
    exact ⟨rfl, up (bel1 _ _) hB⟩
  | true =>
    rw [wrF_yes hv]
    obtain ⟨h1, _, h3⟩ := valid_parts hv
    have HA := Lib.hid fun W (h : In W t) (h2 : Tab W.heap.size W) => rtxt_T t W h h2 h3 h1
    rw [hv] at HV
    have HI := Lib.hid hin
    have HT := Lib.hid ht
    clear hv h3 hin ht
    go_enter Tryz.func32, Tryz.ntmps32
    go_wp2_with (first
      | (go_at_call 46; refine (HV.out _ (HI.out.alloc _)).mono ?_; rintro e w2 ⟨rfl, hB⟩; obtain ⟨c0, c1, c2, c3⟩ := Box4.cells (w := w2) (b := w.heap.size) (t := t) ((hB.block _ (by simp)).trans (heap_alloc_new w _)); have HB := Lib.hid (up (bel1 _ _) hB); clear hB)
      | (go_at_call 62; refine (HA.out _ (HI.out.below HB.out) (HT.out.next HB.out)).mono ?_; rintro e w3 ⟨rfl, hB⟩; have HB3 := Lib.hid (up HB.out hB); clear hB))
    go_ret
    exact ⟨rfl, HB3.out⟩
end Go.Proofs.YtedabholcldgbaaGreatDoor

/- reader.WriteAll. -/
namespace Go.Proofs.YtedabholcldgbaaGreatDoor
open Go.RowKit Go.Deep

/-- Forms as text, each with a line feed behind it; those that are not valid are empty. -/
def wAllG (fs : List Fm) : List UInt8 := fs.flatMap fun f => wrF f ++ [10]
theorem wAllG_next (ts : List T) (k : Nat) (h : k < ts.length) : wAllG ((ts.take (k + 1)).map T.form) = wAllG ((ts.take k).map T.form) ++ (wrF ts[k].form ++ [10]) := by
  rw [List.take_succ_eq_append_getElem h]
  simp only [wAllG, List.map_append, List.flatMap_append, List.map_cons, List.map_nil, List.flatMap_cons, List.flatMap_nil, List.append_nil]
theorem wrF_sz (f : Fm) : (wrF f).length + 1 ≤ 4010 * szF f := by
  have hp : 1 ≤ szF f := by rw [szF_eq]; omega
  unfold wrF
  split
  · rename_i h
    have := txF_len (valid_parts h).2.2
    omega
  · simp; omega
theorem wAllG_len : ∀ l : List Fm, (wAllG l).length ≤ 4010 * szL l
  | [] => by simp [wAllG]
  | f :: fs => by
    have := wAllG_len fs
    have := wrF_sz f
    have e : wAllG (f :: fs) = wrF f ++ [10] ++ wAllG fs := by simp [wAllG]
    rw [e]
    simp only [List.length_append, List.length_cons, List.length_nil, szL]
    omega
set_option maxHeartbeats 2000000 in
theorem writeAll_any (ts : List T) (va : Option Addr) (vc : Nat) (w : World) (hin : InL w va 0 ts) (hl : ts.length ≤ 1000000) (hsz : szL (ts.map T.form) ≤ 220000) (htab : Tab w.heap.size w) :
    Calls Tryz.prog 10 #[.slice va ts.length vc] w fun e w' => e = .returned (.string ⟨(wAllG (ts.map T.form)).toArray⟩) ∧ Below w.heap.size w w' := by
  have HK : Hid (∀ W, Below w.heap.size w W → InL W va 0 ts) := Lib.hid fun W h => hin.below h
  have HI := Lib.hid hin
  have HT := Lib.hid htab
  have HS : Hid (∀ k (h : k < ts.length), szF ts[k].form ≤ 220000) := Lib.hid fun k h => by
    have := szL_le (l := ts.map T.form) (f := ts[k].form) (List.mem_map_of_mem (List.getElem_mem h)); omega
  have HL : Hid (∀ k, (wAllG ((ts.take k).map T.form)).length ≤ 882200000) := Lib.hid fun k => by
    have h1 := wAllG_len ((ts.take k).map T.form)
    have h2 := szL_takes (ts.map T.form) k
    rw [← List.map_take] at h2
    omega
  have HE : Hid (∀ k, ts.length ≤ k → wAllG ((ts.take k).map T.form) = wAllG (ts.map T.form)) := Lib.hid fun k h => by rw [List.take_of_length_le h]
  clear hin htab hsz
  go_enter Tryz.func10, Tryz.ntmps10
  go_wp2_with fail
  go_loopg [3, 8] (ts.length) (fun m o i wr => ∃ k : Nat, k ≤ ts.length ∧ m = ts.length - k ∧ i = .int .i64 k ∧ Buf w.heap.size w wr o (wAllG ((ts.take k).map T.form)))
  case atStart => exact ⟨0, by omega, rfl, rfl, by simpa [wAllG] using Buf.start (B := w.heap.size) (w := w) (Nat.le_refl _)⟩
  case round =>
    obtain ⟨k, hk, rfl, rfl, hbk⟩ := hrel
    have HBK := Lib.hid hbk
    have hlk := HL.out k
    clear hbk
    by_cases hlt : k < ts.length
    · obtain ⟨⟨b, o, rfl, hx0, hx1, hx2, hx3⟩, hink⟩ := (HK.out _ HBK.out.below).at k hlt
      have lb : b < wr.heap.size := World.block_lt_of_cell? _ _ hx0
      have hs := HS.out k hlt
      have hin0 := (HI.out.at k hlt).2
      have HN := Lib.hid (wAllG_next ts k hlt)
      have HV := Lib.hid fun W (h : Below w.heap.size w W) => valid_any ts[k] W (hin0.below h) (by omega)
      cases hv : validF ts[k].form with
      | false =>
        rw [hv] at HV
        rw [wrF_no hv, List.nil_append] at HN
        clear hv hink
        go_wp2_with (first
          | (go_at_call 30; refine (HV.out _ (HBK.out.alloc _).below).mono ?_; rintro e w2 ⟨rfl, hB⟩; have HB2 := Lib.hid ((HBK.out.alloc _).next hB); clear hB)
          | (at_builtin; refine buf_bytes rfl _ _ 46 rfl Tryz.underlying46 rfl HB2.out [10] _ (by simp [bytesV]) 1 rfl 1 _ rfl (by simp) (by omega) ?_; intro v3 w3 hb3; have HB3 := Lib.hid hb3; clear hb3))
        go_roundg (ts.length - (k + 1))
        case measure => omega
        case rel => exact ⟨k + 1, by omega, rfl, by go_num, by rw [HN.out]; exact HB3.out⟩
      | true =>
        rw [hv] at HV
        rw [wrF_yes hv] at HN
        have hvp := valid_parts hv
        have hfl := hvp.2.2
        have htl := txF_len hfl
        have HA := Lib.hid fun (v' : Value) W (h : Buf w.heap.size w W v' (wAllG ((ts.take k).map T.form))) => appendForm_T w.heap.size ts[k] v' (wAllG ((ts.take k).map T.form)) W (hin0.below h.below) (fun b hb => hin0.lt hb) h.back (HT.out.on h.below) hfl (by omega)
        have hlen2 : (wAllG ((ts.take k).map T.form) ++ txF ts[k].form).length ≤ 1100000000 := by
          have := hvp.1
          rw [List.length_append]; omega
        clear hv hink hvp hfl htl
        go_wp2_with (first
          | (go_at_call 30; refine (HV.out _ (HBK.out.alloc _).below).mono ?_; rintro e w2 ⟨rfl, hB⟩; obtain ⟨c0, c1, c2, c3⟩ := Box4.cells (w := w2) (b := wr.heap.size) (t := ts[k]) ((hB.block _ (by simp)).trans (heap_alloc_new wr _)); have HB2 := Lib.hid ((HBK.out.alloc _).next hB); clear hB)
          | (go_at_call 31; refine (HA.out _ _ HB2.out).mono ?_; rintro e w3 ⟨v3, rfl, hb3⟩; have HB3 := Lib.hid (HB2.out.trans hb3); clear hb3)
          | (at_builtin; refine buf_bytes rfl _ _ 46 rfl Tryz.underlying46 rfl HB3.out [10] _ (by simp [bytesV]) 1 rfl 1 _ rfl (by simp) (by omega) ?_; intro v4 w4 hb4; have HB4 := Lib.hid hb4; clear hb4))
        go_roundg (ts.length - (k + 1))
        case measure => omega
        case rel => exact ⟨k + 1, by omega, rfl, by go_num, by rw [HN.out, ← List.append_assoc]; exact HB4.out⟩
    · have hcv := conv_buf HBK.out
      rw [HE.out k (by omega)] at hcv
      go_wp2_with fail
      go_ret
      exact ⟨rfl, HBK.out.below⟩
end Go.Proofs.YtedabholcldgbaaGreatDoor

/- The document's WriteAll. -/
namespace Go.Proofs.YtedabholcldgbaaGreatDoor.So
open Go.RowKit Go.Deep

set_option maxRecDepth 100000 in
set_option maxHeartbeats 2000000 in
theorem rwriteAll_any (ts : List T) (va : Option Addr) (vc : Nat) (w : World) (hin : InL w va 0 ts) (hl : ts.length ≤ 1000000) (hsz : szL (ts.map T.form) ≤ 220000) (htab : Tab w.heap.size w) :
    Calls Tryz.prog 11 #[.slice va ts.length vc] w fun e w' => e = .returned (.string ⟨(wAllG (ts.map T.form)).toArray⟩) ∧ Below w.heap.size w w' := by
  have HK : Hid (∀ W, Below w.heap.size w W → InL W va 0 ts) := Lib.hid fun W h => hin.below h
  have HI := Lib.hid hin
  have HT := Lib.hid htab
  have HS : Hid (∀ k (h : k < ts.length), szF ts[k].form ≤ 220000) := Lib.hid fun k h => by
    have := szL_le (l := ts.map T.form) (f := ts[k].form) (List.mem_map_of_mem (List.getElem_mem h)); omega
  have HL : Hid (∀ k, (wAllG ((ts.take k).map T.form)).length ≤ 882200000) := Lib.hid fun k => by
    have h1 := wAllG_len ((ts.take k).map T.form)
    have h2 := szL_takes (ts.map T.form) k
    rw [← List.map_take] at h2
    omega
  have HE : Hid (∀ k, ts.length ≤ k → wAllG ((ts.take k).map T.form) = wAllG (ts.map T.form)) := Lib.hid fun k h => by rw [List.take_of_length_le h]
  clear hin htab hsz
  go_enter Tryz.func11, Tryz.ntmps11
  go_wp2_with fail
  go_loopg [3, 4] (ts.length) (fun m o i wr => ∃ k : Nat, k ≤ ts.length ∧ m = ts.length - k ∧ i = .int .i64 k ∧ Buf w.heap.size w wr o (wAllG ((ts.take k).map T.form)))
  case atStart => exact ⟨0, by omega, rfl, rfl, by simpa [wAllG] using Buf.start (B := w.heap.size) (w := w) (Nat.le_refl _)⟩
  case round =>
    obtain ⟨k, hk, rfl, rfl, hbk⟩ := hrel
    have HBK := Lib.hid hbk
    have hlk := HL.out k
    clear hbk
    by_cases hlt : k < ts.length
    · obtain ⟨⟨b, o, rfl, hx0, hx1, hx2, hx3⟩, hink⟩ := (HK.out _ HBK.out.below).at k hlt
      have lb : b < wr.heap.size := World.block_lt_of_cell? _ _ hx0
      have hs := HS.out k hlt
      have hin0 := (HI.out.at k hlt).2
      have HN := Lib.hid (wAllG_next ts k hlt)
      obtain ⟨d, hd⟩ : ∃ d : ByteArray, d = ⟨(wrF ts[k].form).toArray⟩ := ⟨_, rfl⟩
      have hdl : d.data.toList = wrF ts[k].form := by rw [hd]
      have hds : d.size ≤ 882200000 := by
        have e : d.size = d.data.toList.length := by simp
        have := wrF_sz ts[k].form
        rw [e, hdl]; omega
      have HW := Lib.hid (rwrite_any ts[k] wr hink (by omega) (Tab.mono (HT.out.on HBK.out.below) HBK.out.le))
      rw [← hd] at HW
      have HDL := Lib.hid hdl
      have HLN : Hid ((wAllG ((ts.take k).map T.form) ++ d.data.toList).length + 1 ≤ 140737488355328) := Lib.hid (by
        have e : d.size = d.data.toList.length := by simp
        rw [List.length_append]; omega)
      clear hd hdl hink
      go_wp2_with (first
        | (go_at_call 32; refine HW.out.mono ?_; rintro e w2 ⟨rfl, hB⟩; have HB2 := Lib.hid (HBK.out.next hB); clear hB)
        | (at_builtin; refine buf_text rfl _ _ 46 9 rfl Tryz.underlying46 Tryz.underlying9 rfl HB2.out d rfl (by omega) ?_; intro v3 w3 hb3; have HB3 := Lib.hid hb3; clear hb3)
        | (at_builtin; refine buf_bytes rfl _ _ 46 rfl Tryz.underlying46 rfl HB3.out [10] _ (by simp [bytesV]) 1 rfl 1 _ rfl (by simp) HLN.out ?_; intro v4 w4 hb4; have HB4 := Lib.hid hb4; clear hb4))
      go_roundg (ts.length - (k + 1))
      case measure => omega
      case rel => exact ⟨k + 1, by omega, rfl, by go_num, by rw [HN.out, ← List.append_assoc, ← HDL.out]; exact HB4.out⟩
    · have hcv := conv_buf HBK.out
      rw [HE.out k (by omega)] at hcv
      go_wp2_with fail
      go_ret
      exact ⟨rfl, HBK.out.below⟩
end Go.Proofs.YtedabholcldgbaaGreatDoor.So

/- reader.One and the chapter's example. -/
namespace Go.Proofs.YtedabholcldgbaaGreatDoor
open Go.RowKit Go.Deep

theorem oneDone_one (f : Fm) : oneDone (.ok [f]) = .ok f := rfl
theorem oneDone_other {fs : List Fm} (h : fs.length ≠ 1) : oneDone (.ok fs) = .err 4 := by
  match fs, h with
  | [], _ => rfl
  | [_], h => exact absurd rfl h
  | _ :: _ :: _, _ => rfl
set_option maxHeartbeats 2000000 in
set_option maxRecDepth 100000 in
theorem one_any (s : ByteArray) (w : World) (hs0 : s.size ≤ maxLen) (hg : Glob w) (h6 : 8 ≤ w.heap.size) :
    Calls Tryz.prog 27 #[.string s] w fun e w' => OneEnd w w' (oneR s) e := by
  have HR := fun w' (g : Glob w') (h : 8 ≤ w'.heap.size) => read_any s w' hs0 g h
  have HG := Lib.hid hg
  unfold oneR
  cases hr : readR s with
  | err c =>
    rw [hr] at HR
    have HR := Lib.hid HR
    have hc : (c != 0) = true := by have := readR_err hr; simpa using this
    clear hr hg
    go_enter Tryz.func27, Tryz.ntmps27
    go_wp2_with (go_at_call 48; refine (HR.out _ (HG.out.below (bel1 _ _) h6) (by simp; omega)).mono ?_; rintro e w2 ⟨rfl, hB⟩; obtain ⟨c0, c1, c2, c3, f0, f1, f2, f3⟩ := res_cells hB; have HB := Lib.hid hB; clear hB)
    exact bodyPost_ret (v := .tuple #[.agg #[.int .i64 0, .int .i64 0, .string ⟨#[]⟩, .slice none 0 0], .int .i64 c]) (by simp [results, Tryz.results27, go_sem, c0, c1, c2, c3]) rfl ⟨rfl, below_res HB.out _ _ _ _⟩
  | ok fs =>
    rw [hr] at HR
    by_cases hl : fs.length = 1
    · obtain ⟨f, rfl⟩ : ∃ f, fs = [f] := List.length_eq_one_iff.1 hl
      rw [oneDone_one]
      have HR := Lib.hid HR
      clear hr hg hl
      go_enter Tryz.func27, Tryz.ntmps27
      go_wp2_with (go_at_call 48; refine (HR.out _ (HG.out.below (bel1 _ _) h6) (by simp; omega)).mono ?_; rintro e w2 ⟨v, rfl, hF, hB⟩; obtain ⟨va, vc, ts, rfl, hI, hfs, hcap, hb1, hb2⟩ := hF; obtain ⟨t, rfl⟩ : ∃ t, ts = [t] := (by cases ts with
          | nil => cases hfs
          | cons t r => cases r with
            | nil => exact ⟨t, rfl⟩
            | cons _ _ => cases hfs); obtain ⟨⟨b, o, rfl, hk0, hk1, hk2, hk3⟩, hin⟩ := hI.at 0 (by simp); have hbb := hb2 b o none rfl; simp only [World.size_alloc] at hbb; obtain ⟨c0, c1, c2, c3, f0, f1, f2, f3⟩ := res_cells hB; simp only [List.getElem_cons_zero, Nat.zero_mul, Nat.add_zero] at hk0 hk1 hk2 hk3 hin; have HB := Lib.hid hB; have HIN := Lib.hid hin; have HOB := Lib.hid hb1; have HFS := Lib.hid hfs; clear hB hin hb1 hb2 hI hcap hfs)
      have hfrm : t.form = f := by have := HFS.out; simpa using this
      have hob : ∀ b, On t b → b ≠ w.heap.size := fun b hb => by have := HOB.out t (by simp) b hb; simp at this; omega
      refine bodyPost_ret (v := .tuple #[t.val, .int .i64 0]) (by simp [results, Tryz.results27, go_sem, c0, c1, c2, c3]) rfl ⟨t, rfl, hfrm, ?_, below_res HB.out _ _ _ _⟩
      exact HIN.out.same _ (Nat.lt_succ_self _) fun b hb => by
        have hne := hob b hb
        rw [Below.heap_setCell _ _ _ _ hne, Below.heap_setCell _ _ _ _ hne, Below.heap_setCell _ _ _ _ hne, Below.heap_setCell _ _ _ _ hne]
    · rw [oneDone_other hl]
      have HR := Lib.hid HR
      clear hr hg
      go_enter Tryz.func27, Tryz.ntmps27
      go_wp2_with (go_at_call 48; refine (HR.out _ (HG.out.below (bel1 _ _) h6) (by simp; omega)).mono ?_; rintro e w2 ⟨v, rfl, hF, hB⟩; obtain ⟨va, vc, ts, rfl, hI, hfs, hcap, hb1, hb2⟩ := hF; have hn : ts.length = fs.length := (by rw [← hfs, List.length_map]); have hne : (((ts.length : Int)) != 1) = true := (by simp; omega); have hn2 : ts.length ≤ 9223372036854775807 := (by unfold maxLen at hcap; omega); obtain ⟨c0, c1, c2, c3, f0, f1, f2, f3⟩ := res_cells hB; have HB := Lib.hid hB; clear hB hI hfs hcap hb1 hb2 hn)
      exact bodyPost_ret (v := .tuple #[.agg #[.int .i64 0, .int .i64 0, .string ⟨#[]⟩, .slice none 0 0], .int .i64 4]) (by simp [results, Tryz.results27, go_sem, c0, c1, c2, c3]) rfl ⟨rfl, below_res HB.out _ _ _ _⟩
end Go.Proofs.YtedabholcldgbaaGreatDoor

/- The chapter's example, as plain data. -/
namespace Go.Proofs.YtedabholcldgbaaGreatDoor
open Go.RowKit Go.Deep

def saneS : ByteArray := ⟨#[40, 102, 32, 49, 32, 34, 97, 92, 110, 98, 34, 32, 40, 103, 41, 41]⟩
def saneF : Fm := .mk 3 0 ⟨#[]⟩ [.mk 1 0 ⟨#[102]⟩ [], .mk 0 1 ⟨#[]⟩ [], .mk 2 0 ⟨#[97, 10, 98]⟩ [], .mk 3 0 ⟨#[]⟩ [.mk 1 0 ⟨#[103]⟩ []]]
theorem sane_read : readR saneS = .ok [saneF] := by kernel_rfl
theorem sane_size : szF saneF = 6 := by kernel_rfl
theorem sane_depth : dpF saneF = 3 := by kernel_rfl
end Go.Proofs.YtedabholcldgbaaGreatDoor

/- sane: the chapter's example holds. -/
namespace Go.Proofs.YtedabholcldgbaaGreatDoor
open Go.RowKit Go.Deep

theorem sane_one : oneR saneS = .ok saneF := by unfold oneR; rw [sane_read]; rfl
theorem sane_head : headF saneF = ⟨#[102]⟩ := by kernel_rfl
set_option maxHeartbeats 2000000 in
set_option maxRecDepth 100000 in
theorem sane_any (w : World) (hg : Glob w) (h6 : 8 ≤ w.heap.size) :
    Calls Tryz.prog 15 #[] w fun e w' => e = .returned (.bool true) ∧ Below w.heap.size w w' := by
  have HO := one_any saneS w (by unfold maxLen; decide) hg h6
  rw [sane_one] at HO
  have HO := Lib.hid HO
  have HS := Lib.hid fun (t : T) (h : t.form = saneF) w' (hi : In w' t) => (size_any t w' hi (by rw [h, sane_size]; omega)).mono fun e w'' g => (by rw [h, sane_size] at g; exact g : e = .returned (.int .i64 6) ∧ Below w'.heap.size w' w'')
  have HD := Lib.hid fun (t : T) (h : t.form = saneF) w' (hi : In w' t) => (depth_any t w' hi (by rw [h, sane_size]; omega)).mono fun e w'' g => (by rw [h, sane_depth] at g; exact g : e = .returned (.int .i64 3) ∧ Below w'.heap.size w' w'')
  have HH := Lib.hid fun (t : T) (h : t.form = saneF) w' (hi : In w' t) => (head_any t w' hi).mono fun e w'' g => (by rw [h, sane_head] at g; exact g : e = .returned (.string ⟨#[102]⟩) ∧ Below w'.heap.size w' w'')
  clear hg
  go_enter Tryz.func15, Tryz.ntmps15
  go_wp2_with (first
    | (go_at_call 27; refine HO.out.mono ?_; rintro e w2 ⟨t, rfl, hf, hin, hB⟩; have HF := Lib.hid hf; have HIN := Lib.hid hin; have HB := Lib.hid hB; have hz2 := hB.size; clear hf hin hB)
    | (go_at_call 41; refine (HS.out _ HF.out _ (HIN.out.alloc _)).mono ?_; rintro e w3 ⟨rfl, hB3⟩; obtain ⟨k0, k1, k2, k3⟩ := Box4.cells (w := w3) (t := t) ((hB3.block _ (by simp)).trans (Box4.new w2 t)); have HB3 := Lib.hid hB3; have hz3 := hB3.size; simp only [World.size_alloc] at hz3; clear hB3)
    | (go_at_call 42; refine (HD.out _ HF.out _ ((HIN.out.alloc _).below HB3.out)).mono ?_; rintro e w4 ⟨rfl, hB4⟩; obtain ⟨m0, m1, m2, m3⟩ := Box4.cells (w := w4) (t := t) ((hB4.block _ (by omega)).trans ((HB3.out.block _ (by simp)).trans (Box4.new w2 t))); have HB4 := Lib.hid hB4; clear hB4)
    | (go_at_call 43; refine (HH.out _ HF.out _ (((HIN.out.alloc _).below HB3.out).below HB4.out)).mono ?_; rintro e w5 ⟨rfl, hB5⟩; have HB5 := Lib.hid hB5; clear hB5))
  go_goals
  go_ret
  exact ⟨rfl, up HB.out (up (bel1 _ _) (up HB3.out (up HB4.out HB5.out)))⟩
end Go.Proofs.YtedabholcldgbaaGreatDoor

/- An argument that reads as a list of forms, with its bulk. -/
namespace Go.Proofs.YtedabholcldgbaaGreatDoor
open Go.RowKit Go.Deep Go.ChangeShapes Go.WideShapes

section
variable {H : Type} {enc : TypeId × Value → H} {w : World} {base : Nat} {sp : Nat → Bool} {hd : Bool}
set_option maxRecDepth 100000 in
theorem open_list {b0 : Nat} {r : Reach} {v : Value} {d : DataW H} {ps : List MemPlace} (hv : Value.okWide Tryz.prog w r b0 22 v) (h : DataW.Trod enc Tryz.prog w base sp hd 22 v d ps) :
    ∃ (va : Option Addr) (vc : Nat) (ts : List T), v = .slice va ts.length vc ∧ InL w va 0 ts ∧ ts.length ≤ vc ∧ vc ≤ maxLen ∧ bkL (ts.map T.form) ≤ Rows.uptoBulk d := by
  obtain ⟨a0, l0, c0, rfl⟩ := okWide_slice Tryz.underlying22 hv
  obtain ⟨fuel, hf⟩ := h
  rcases DataW.trod_slice Tryz.underlying22 hf with ⟨hc, _⟩ | ⟨a, len, cap, elems, rest, n', _, hc, hx, _, hle, hcm, hel, hcell, _⟩
  · simp [Value.cells] at hc
    obtain ⟨rfl, rfl, rfl⟩ := hc
    exact ⟨none, 0, [], rfl, by simp [InL], Nat.le_refl _, Nat.zero_le _, by simp [bkL]⟩
  · simp [Value.cells] at hc
    obtain ⟨rfl, rfl, rfl⟩ := hc
    have hxx : ∀ i, i < l0 → ∃ t : T, In w t ∧ (∀ j, j < 4 → w.cell? ((a.add (i * 4)).add j) = t.cs[j]?) ∧ ∀ h : i < elems.length, bkF t.form ≤ Rows.uptoBulk elems[i].1 := fun i hi => by
      have h1 := hcell i hi
      rw [cellsOf27, List.getElem?_eq_getElem (by omega)] at h1
      obtain ⟨cs', hc, ht⟩ := Option.bind_eq_some_iff.1 h1
      obtain ⟨t, rfl, hin, hb⟩ := open_formB n' cs' _ ht
      obtain ⟨_, _, hat⟩ := World.cells?_some hc
      exact ⟨t, hin, hat, fun _ => hb⟩
    obtain ⟨f, hfx⟩ := choose_lt hxx
    have hks : ((List.range l0).map f).length = l0 := by simp
    refine ⟨some a, c0, (List.range l0).map f, by rw [hks], InL_mk fun j hj => ?_, by rw [hks]; exact hle, hcm, ?_⟩
    · have hj' : j < l0 := by simpa using hj
      obtain ⟨hin, hc, _⟩ := hfx j hj'
      have hkj : ((List.range l0).map f)[j] = f j := by simp
      rw [hkj]
      refine ⟨?_, hin⟩
      have hspot : a.spot = none := by
        have h0 := (hfx 0 (by omega)).2.1 0 (by omega)
        have := World.cell?_spot h0
        simpa [Addr.add] using this
      obtain ⟨b, o, spt⟩ := a
      obtain rfl : spt = none := hspot
      have hadd : ∀ i, ((⟨b, o, none⟩ : Addr).add (j * 4)).add i = ⟨b, o + (0 + j) * 4 + i, none⟩ := fun i => by
        rw [add_add]
        unfold Addr.add
        split
        · rename_i h0
          have : j * 4 + i = 0 := h0
          rw [show o + (0 + j) * 4 + i = o by omega]
        · rw [show o + (0 + j) * 4 + i = o + (j * 4 + i) by omega]
      refine ⟨b, o, rfl, ?_, ?_, ?_, ?_⟩
      · have := hc 0 (by omega); rw [hadd 0] at this; simpa using this
      · have := hc 1 (by omega); rw [hadd 1] at this; simpa using this
      · have := hc 2 (by omega); rw [hadd 2] at this; simpa using this
      · have := hc 3 (by omega); rw [hadd 3] at this; simpa using this
    · have hb := bkL_le (((List.range l0).map f).map T.form) (elems.map (·.1)) (by simp [hel]) (fun i h1 h2 => by
        have hi : i < l0 := by simpa using h1
        have := (hfx i hi).2.2 (by simpa using h2)
        simpa using this)
      simp only [Prod.mk.injEq] at hx
      rw [hx.1]
      simp only [Rows.uptoBulk]
      omega
theorem rowList : 22 < Tryz.prog.types.size := of_decide_eq_true (by kernel_rfl)
theorem recList : Tryz.prog.readableRec 22 = true := by kernel_rfl
theorem again_list {w' : World} {v : Value} {d : DataW H} {ps : List MemPlace} (h : DataW.Trod enc Tryz.prog w 0 (fun _ => true) true 22 v d ps) (hb : Below w.heap.size w w') (hlt : ∀ x ∈ ps, x.block < w.heap.size) :
    DataW.Trod enc Tryz.prog w' 0 (fun b => decide (b < w.heap.size)) true 22 v d ps :=
  Below.trod laidOut recList rowList h hb hlt
end
end Go.Proofs.YtedabholcldgbaaGreatDoor

/- The library's table of powers, out of the row's list. -/
namespace Go.Proofs.YtedabholcldgbaaGreatDoor
open Go.ChangeShapes Go.WideShapes Go.ChangeAt Go.RowKit

theorem gPow : Tryz.prog.globalNamed "internal/strconv.uint64pow10" = some 1 := by kernel_rfl
theorem tPow : (Tryz.prog.globals[1]?).map (·.type) = some 152 := by kernel_rfl
theorem cellsPow : Tryz.prog.cellsOf 152 = 20 := by kernel_rfl
theorem cellsU64 : Tryz.prog.cellsOf 123 = 1 := by kernel_rfl
theorem powData : (Rows.laid_internal_strconv_uint64pow10 : DataW Unit) = Lib.tabData .u64 Lib.pow10Tab := by kernel_rfl
theorem tab_of_laid {W : World} (h : laidMetH Tryz.prog laid5 W) : Tab W.heap.size W := by
  rw [MakeChecks.laidMetH_plain _ _ _ (by kernel_rfl)] at h
  have h2 := h.tail.tail
  rw [powData] at h2
  exact Lib.tabBelow_of_tabIs (Lib.tabIs_of_head gPow tPow Tryz.underlying152 Tryz.underlying123 cellsU64 cellsPow h2)
end Go.Proofs.YtedabholcldgbaaGreatDoor
