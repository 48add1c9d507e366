/- The document's own words, texts and numerals. -/
import Derived.Test.YtedabholcldgbaaGreatDoorValid
namespace Go.Proofs.YtedabholcldgbaaGreatDoor
open Go.RowKit Go.Deep

theorem visible_ok : BOk 128 tokB := by
  intro b w
  by_cases h1 : 33 ≤ b
  · by_cases h2 : b ≤ 126
    · by_cases h3 : b = 40
      · subst h3
        go_enter Tryz.func128, Tryz.ntmps128
        go_wp2
        go_ret
        exact ⟨rfl, rfl⟩
      · by_cases h4 : b = 41
        · subst h4
          go_enter Tryz.func128, Tryz.ntmps128
          go_wp2
          go_ret
          exact ⟨rfl, rfl⟩
        · by_cases h5 : b = 34
          · subst h5
            go_enter Tryz.func128, Tryz.ntmps128
            go_wp2
            go_ret
            exact ⟨rfl, rfl⟩
          · by_cases h6 : b = 59
            · subst h6
              go_enter Tryz.func128, Tryz.ntmps128
              go_wp2
              go_ret
              exact ⟨rfl, rfl⟩
            · have e : tokB b = true := by simp [tokB, plainB, h1, h2, h3, h4, h5, h6]
              rw [e]
              have g3 : (b != 40) = true := by simpa using h3
              have g4 : (b != 41) = true := by simpa using h4
              have g5 : (b != 34) = true := by simpa using h5
              have g6 : (b != 59) = true := by simpa using h6
              clear h3 h4 h5 h6 e
              go_enter Tryz.func128, Tryz.ntmps128
              go_wp2
              go_ret
              exact ⟨rfl, rfl⟩
    · have e : tokB b = false := by simp [tokB, plainB, h2]
      rw [e]
      have h2' : decide (b ≤ 126) = false := by simpa using h2
      go_enter Tryz.func128, Tryz.ntmps128
      go_wp2
      go_ret
      exact ⟨rfl, rfl⟩
  · have e : tokB b = false := by simp [tokB, plainB, h1]
    rw [e]
    have h1' : decide (33 ≤ b) = false := by simpa using h1
    go_enter Tryz.func128, Tryz.ntmps128
    go_wp2
    go_ret
    exact ⟨rfl, rfl⟩

/-- Not empty, and digits alone. -/
def digsB (d : ByteArray) : Bool := !(d.size == 0) && allB digB d
theorem extract_list (s : ByteArray) : (s.extract 1 s.size).data.toList = s.data.toList.drop 1 := by
  rw [ByteArray.data_extract, Array.toList_extract]
  simp [List.take_of_length_le]
theorem isEmpty_size (d : ByteArray) : d.data.toList.isEmpty = (d.size == 0) := by
  cases h : d.data.toList with
  | nil => have : d.size = 0 := by have := congrArg List.length h; simpa using this
           simp [this]
  | cons a r => have : d.size = r.length + 1 := by have := congrArg List.length h; simpa using this
                simp [this]
theorem numB_trim {s : ByteArray} (h : 1 < s.size) (h0 : s[0].toNat = 45) : numB s = digsB (s.extract 1 s.size) := by
  have hl : s.data.toList = s[0] :: s.data.toList.drop 1 := by
    exact List.drop_eq_getElem_cons (l := s.data.toList) (i := 0) (by simp; omega)
  have ht : Lib.trimPrefix s.data.toList [45] = s.data.toList.drop 1 := by
    have e : s[0] = 45 := by rw [← UInt8.toNat_inj]; simpa using h0
    unfold Lib.trimPrefix
    rw [if_pos]
    · rfl
    · rw [hl, e]; simp [Lib.hasPrefix]
  unfold numB numL digsB allB
  rw [ht, ← isEmpty_size, extract_list]
theorem numB_plain {s : ByteArray} (h : ¬ (1 < s.size ∧ ∃ h : 0 < s.size, (s[0]'h).toNat = 45)) : numB s = digsB s := by
  by_cases hp : ∃ h : 0 < s.size, (s[0]'h).toNat = 45
  · obtain ⟨h0, h1⟩ := hp
    have hs : s.size = 1 := by
      by_cases e : 1 < s.size
      · exact absurd ⟨e, h0, h1⟩ h
      · omega
    have e : s[0] = 45 := by rw [← UInt8.toNat_inj]; simpa using h1
    have hl : s.data.toList = [45] := by
      have := List.drop_eq_getElem_cons (l := s.data.toList) (i := 0) (by simp; omega)
      have h2 : s.data.toList.drop 1 = [] := List.drop_of_length_le (by simp; omega)
      simp only [List.drop_zero, Nat.zero_add] at this
      rw [h2] at this
      rw [this]
      have : s.data.toList[0]'(by simp; omega) = s[0] := rfl
      rw [this, e]
    unfold numB numL digsB allB
    rw [hl, hs]
    decide
  · have ht : Lib.trimPrefix s.data.toList [45] = s.data.toList := by
      unfold Lib.trimPrefix
      rw [if_neg]
      intro hpre
      apply hp
      cases hl : s.data.toList with
      | nil => rw [hl] at hpre; simp [Lib.hasPrefix] at hpre
      | cons a r =>
        rw [hl] at hpre
        have hz : 0 < s.size := by have := congrArg List.length hl; simp at this; omega
        refine ⟨hz, ?_⟩
        have e1 : s[0] = a := by
          have : s.data.toList[0]'(by simpa using hz) = a := by simp [hl]
          exact this
        rw [e1]
        simp [Lib.hasPrefix] at hpre
        rw [← hpre]
        rfl
    unfold numB numL digsB allB
    rw [ht, ← isEmpty_size]
set_option maxHeartbeats 1000000 in
theorem digits_any (s : ByteArray) (hs : s.size ≤ maxLen) (w : World) :
    Calls Tryz.prog 141 #[.string s] w fun e w' => e = .returned (.bool (numB s)) ∧ w = w' := by
  unfold maxLen at hs
  by_cases hp : 1 < s.size ∧ ∃ h : 0 < s.size, (s[0]'h).toNat = 45
  · obtain ⟨h1, h0, h2⟩ := hp
    obtain ⟨r, hr⟩ : ∃ r, digsB (s.extract 1 s.size) = r := ⟨_, rfl⟩
    rw [numB_trim h1 h2, hr]
    have HR := Lib.hid hr
    clear hr
    have g1 : (1 : Int) < (s.size : Int) := by omega
    have g2 : ((s[0].toNat : Int) == 45) = true := by simp; omega
    have hds : (s.extract 1 s.size).size = s.size - 1 := by simp
    have HD := Lib.hid hds
    clear h2 hds
    go_enter Tryz.func141, Tryz.ntmps141
    go_wp2_with fail
    generalize hdd : s.extract 1 s.size = d
    have hd2 : d.size ≤ 9223372036854775807 := by rw [← hdd, HD.out]; omega
    have HRD : Hid (digsB d = r) := Lib.hid (by rw [← hdd]; exact HR.out)
    clear hdd HD hs g1 g2 HR
    by_cases hz : d.size = 0
    · have z1 := toList_nil hz
      have HN : Hid (digsB d = false) := Lib.hid (by unfold digsB; simp [hz])
      go_loopg [3] (0) (fun m i wr => m = 0 ∧ i = .int .i64 0 ∧ w = wr)
      case atStart => exact ⟨rfl, rfl, rfl⟩
      case round =>
        obtain ⟨_, rfl, rfl⟩ := hrel
        have hz0 : ¬ 0 < d.size := by omega
        clear hz
        go_wp2_with fail
        go_ret
        exact ⟨ret_bool (by rw [← HRD.out, HN.out]), rfl⟩
    · have z1 := toList_ne hz
      have z2 : (d.toList.isEmpty) = false := by simpa using z1
      have z3 : (!d.toList.isEmpty) = true := by simpa using z1
      have HN : Hid (digsB d = allB digB d) := Lib.hid (by unfold digsB; simp [hz])
      go_loopg [3] (d.size) (fun m i wr => ∃ k : Nat, k ≤ d.size ∧ m = d.size - k ∧ i = .int .i64 k ∧ AllTo digB d k ∧ w = wr)
      case atStart => exact ⟨0, by omega, rfl, rfl, fun j _ h => absurd h (by omega), rfl⟩
      case round =>
        obtain ⟨k, hk, rfl, rfl, hL, rfl⟩ := hrel
        have HZ := Lib.hid hz
        have Z1 := Lib.hid z1
        clear hz z1
        by_cases hlt : k < d.size
        · by_cases b1 : d[k].toNat < 48
          · have g1 : decide ((d[k].toNat : Int) < 48) = true := by simp; omega
            have HS := Lib.hid (AllTo.stop hlt (p := digB) (by simp [digB]; omega))
            clear b1 hL
            go_wp2_with fail
            go_ret
            exact ⟨ret_bool (by rw [← HRD.out, HN.out, HS.out]), rfl⟩
          · have g1 : decide ((d[k].toNat : Int) < 48) = false := by simp; omega
            by_cases b2 : 57 < d[k].toNat
            · have g2 : decide ((57 : Int) < (d[k].toNat : Int)) = true := by simp; omega
              have HS := Lib.hid (AllTo.stop hlt (p := digB) (by simp [digB]; omega))
              clear b1 b2 hL
              go_wp2_with fail
              go_ret
              exact ⟨ret_bool (by rw [← HRD.out, HN.out, HS.out]), rfl⟩
            · have g2 : decide ((57 : Int) < (d[k].toNat : Int)) = false := by simp; omega
              have HS := Lib.hid (hL.step hlt (by simp [digB]; omega))
              clear b1 b2 hL
              go_wp2_with fail
              go_roundg (d.size - (k + 1))
              case measure => omega
              case rel => exact ⟨k + 1, by omega, rfl, by go_num, HS.out, rfl⟩
        · have HS := Lib.hid (hL.ends (by omega))
          clear hL
          go_wp2_with fail
          go_ret
          exact ⟨ret_bool (by rw [← HRD.out, HN.out, HS.out]), rfl⟩
  · obtain ⟨r, hr⟩ : ∃ r, digsB s = r := ⟨_, rfl⟩
    rw [numB_plain hp, hr]
    have HRD := Lib.hid hr
    clear hr
    by_cases h1 : 1 < s.size
    · have g1 : (1 : Int) < (s.size : Int) := by omega
      have g2 : ((s[0].toNat : Int) == 45) = false := by
        have : s[0].toNat ≠ 45 := fun e => hp ⟨h1, by omega, e⟩
        simp; omega
      clear hp
      go_enter Tryz.func141, Tryz.ntmps141
      go_wp2_with fail
      obtain ⟨d, rfl⟩ : ∃ d, d = s := ⟨_, rfl⟩
      have hd2 : d.size ≤ 9223372036854775807 := by omega
      clear hs g1 g2 h1
      by_cases hz : d.size = 0
      · have z1 := toList_nil hz
        have HN : Hid (digsB d = false) := Lib.hid (by unfold digsB; simp [hz])
        go_loopg [3] (0) (fun m i wr => m = 0 ∧ i = .int .i64 0 ∧ w = wr)
        case atStart => exact ⟨rfl, rfl, rfl⟩
        case round =>
          obtain ⟨_, rfl, rfl⟩ := hrel
          have hz0 : ¬ 0 < d.size := by omega
          clear hz
          go_wp2_with fail
          all_goals
            go_ret
            exact ⟨ret_bool (by rw [← HRD.out, HN.out]), rfl⟩
      · have z1 := toList_ne hz
        have z2 : (d.toList.isEmpty) = false := by simpa using z1
        have z3 : (!d.toList.isEmpty) = true := by simpa using z1
        have HN : Hid (digsB d = allB digB d) := Lib.hid (by unfold digsB; simp [hz])
        go_loopg [3] (d.size) (fun m i wr => ∃ k : Nat, k ≤ d.size ∧ m = d.size - k ∧ i = .int .i64 k ∧ AllTo digB d k ∧ w = wr)
        case atStart => exact ⟨0, by omega, rfl, rfl, fun j _ h => absurd h (by omega), rfl⟩
        case round =>
          obtain ⟨k, hk, rfl, rfl, hL, rfl⟩ := hrel
          have HZ := Lib.hid hz
          have Z1 := Lib.hid z1
          clear hz z1
          by_cases hlt : k < d.size
          · by_cases b1 : d[k].toNat < 48
            · have g1 : decide ((d[k].toNat : Int) < 48) = true := by simp; omega
              have HS := Lib.hid (AllTo.stop hlt (p := digB) (by simp [digB]; omega))
              clear b1 hL
              go_wp2_with fail
              go_ret
              exact ⟨ret_bool (by rw [← HRD.out, HN.out, HS.out]), rfl⟩
            · have g1 : decide ((d[k].toNat : Int) < 48) = false := by simp; omega
              by_cases b2 : 57 < d[k].toNat
              · have g2 : decide ((57 : Int) < (d[k].toNat : Int)) = true := by simp; omega
                have HS := Lib.hid (AllTo.stop hlt (p := digB) (by simp [digB]; omega))
                clear b1 b2 hL
                go_wp2_with fail
                go_ret
                exact ⟨ret_bool (by rw [← HRD.out, HN.out, HS.out]), rfl⟩
              · have g2 : decide ((57 : Int) < (d[k].toNat : Int)) = false := by simp; omega
                have HS := Lib.hid (hL.step hlt (by simp [digB]; omega))
                clear b1 b2 hL
                go_wp2_with fail
                go_roundg (d.size - (k + 1))
                case measure => omega
                case rel => exact ⟨k + 1, by omega, rfl, by go_num, HS.out, rfl⟩
          · have HS := Lib.hid (hL.ends (by omega))
            clear hL
            go_wp2_with fail
            go_ret
            exact ⟨ret_bool (by rw [← HRD.out, HN.out, HS.out]), rfl⟩
    · have g1 : ¬ (1 : Int) < (s.size : Int) := by omega
      clear hp
      go_enter Tryz.func141, Tryz.ntmps141
      go_wp2_with fail
      obtain ⟨d, rfl⟩ : ∃ d, d = s := ⟨_, rfl⟩
      have hd2 : d.size ≤ 9223372036854775807 := by omega
      clear hs g1 h1
      by_cases hz : d.size = 0
      · have z1 := toList_nil hz
        have HN : Hid (digsB d = false) := Lib.hid (by unfold digsB; simp [hz])
        go_loopg [3] (0) (fun m i wr => m = 0 ∧ i = .int .i64 0 ∧ w = wr)
        case atStart => exact ⟨rfl, rfl, rfl⟩
        case round =>
          obtain ⟨_, rfl, rfl⟩ := hrel
          have hz0 : ¬ 0 < d.size := by omega
          clear hz
          go_wp2_with fail
          go_ret
          exact ⟨ret_bool (by rw [← HRD.out, HN.out]), rfl⟩
      · have z1 := toList_ne hz
        have z2 : (d.toList.isEmpty) = false := by simpa using z1
        have z3 : (!d.toList.isEmpty) = true := by simpa using z1
        have HN : Hid (digsB d = allB digB d) := Lib.hid (by unfold digsB; simp [hz])
        go_loopg [3] (d.size) (fun m i wr => ∃ k : Nat, k ≤ d.size ∧ m = d.size - k ∧ i = .int .i64 k ∧ AllTo digB d k ∧ w = wr)
        case atStart => exact ⟨0, by omega, rfl, rfl, fun j _ h => absurd h (by omega), rfl⟩
        case round =>
          obtain ⟨k, hk, rfl, rfl, hL, rfl⟩ := hrel
          have HZ := Lib.hid hz
          have Z1 := Lib.hid z1
          clear hz z1
          by_cases hlt : k < d.size
          · by_cases b1 : d[k].toNat < 48
            · have g1 : decide ((d[k].toNat : Int) < 48) = true := by simp; omega
              have HS := Lib.hid (AllTo.stop hlt (p := digB) (by simp [digB]; omega))
              clear b1 hL
              go_wp2_with fail
              go_ret
              exact ⟨ret_bool (by rw [← HRD.out, HN.out, HS.out]), rfl⟩
            · have g1 : decide ((d[k].toNat : Int) < 48) = false := by simp; omega
              by_cases b2 : 57 < d[k].toNat
              · have g2 : decide ((57 : Int) < (d[k].toNat : Int)) = true := by simp; omega
                have HS := Lib.hid (AllTo.stop hlt (p := digB) (by simp [digB]; omega))
                clear b1 b2 hL
                go_wp2_with fail
                go_ret
                exact ⟨ret_bool (by rw [← HRD.out, HN.out, HS.out]), rfl⟩
              · have g2 : decide ((57 : Int) < (d[k].toNat : Int)) = false := by simp; omega
                have HS := Lib.hid (hL.step hlt (by simp [digB]; omega))
                clear b1 b2 hL
                go_wp2_with fail
                go_roundg (d.size - (k + 1))
                case measure => omega
                case rel => exact ⟨k + 1, by omega, rfl, by go_num, HS.out, rfl⟩
          · have HS := Lib.hid (hL.ends (by omega))
            clear hL
            go_wp2_with fail
            go_ret
            exact ⟨ret_bool (by rw [← HRD.out, HN.out, HS.out]), rfl⟩

set_option maxHeartbeats 1000000 in
theorem rword_any (s : ByteArray) (hs : s.size ≤ maxLen) (w : World) :
    Calls Tryz.prog 105 #[.string s] w fun e w' => e = .returned (.bool (wordB s)) ∧ w = w' := by
  have HD := Lib.hid (digits_any s hs)
  unfold maxLen at hs
  obtain ⟨r, hr⟩ : ∃ r, wordB s = r := ⟨_, rfl⟩
  rw [hr]
  have HR := Lib.hid hr
  clear hr
  go_enter Tryz.func105, Tryz.ntmps105
  go_wp2_with fail
  go_loopg [3] (s.size) (fun m i wr => ∃ k : Nat, k ≤ s.size ∧ m = s.size - k ∧ i = .int .i64 k ∧ AllTo tokB s k ∧ w = wr)
  case atStart => exact ⟨0, by omega, rfl, rfl, fun j _ h => absurd h (by omega), rfl⟩
  case round =>
    obtain ⟨k, hk, rfl, rfl, hL, rfl⟩ := hrel
    by_cases hlt : k < s.size
    · have HP := Lib.hid (visible_ok (s[k].toNat : Int) w)
      cases hp : tokB (s[k].toNat : Int) with
      | true =>
        rw [hp] at HP
        have HS := Lib.hid (hL.step hlt hp)
        clear hp hL
        go_wp2_with (go_at_call 128; refine (HP.out).mono ?_; rintro e w2 ⟨rfl, rfl⟩)
        go_roundg (s.size - (k + 1))
        case measure => omega
        case rel => exact ⟨k + 1, by omega, rfl, by go_num, HS.out, rfl⟩
      | false =>
        rw [hp] at HP
        have HS : Hid (false = r) := Lib.hid (by rw [← HR.out]; unfold wordB; rw [AllTo.stop hlt hp]; simp)
        clear hp hL
        go_wp2_with (go_at_call 128; refine (HP.out).mono ?_; rintro e w2 ⟨rfl, rfl⟩)
        go_ret
        exact ⟨ret_bool HS.out, rfl⟩
    · have ha := hL.ends (by omega)
      have HN := HR.out
      unfold wordB at HN
      rw [ha] at HN
      clear hL ha
      by_cases z1 : 1 ≤ s.size
      · by_cases z2 : s.size ≤ 30
        · have HS : Hid ((!numB s) = r) := Lib.hid (by rw [← HN]; simp [z1, z2])
          have z3 : (s.size : Int) ≤ 30 := by omega
          have z4 : (1 : Int) ≤ (s.size : Int) := by omega
          clear HN
          go_wp2_with (go_at_call 141; refine (HD.out _).mono ?_; rintro e w2 ⟨rfl, rfl⟩)
          go_ret
          exact ⟨ret_bool HS.out, rfl⟩
        · have HS : Hid (false = r) := Lib.hid (by rw [← HN]; simp [z2])
          have z3 : ¬ (s.size : Int) ≤ 30 := by omega
          have z4 : (1 : Int) ≤ (s.size : Int) := by omega
          clear HN
          go_wp2_with fail
          go_ret
          exact ⟨ret_bool HS.out, rfl⟩
      · have HS : Hid (false = r) := Lib.hid (by rw [← HN]; simp [z1])
        have z4 : ¬ (1 : Int) ≤ (s.size : Int) := by omega
        clear HN
        go_wp2_with fail
        go_ret
        exact ⟨ret_bool HS.out, rfl⟩

set_option maxHeartbeats 1000000 in
theorem rtext_ok (s : ByteArray) (hs : s.size ≤ maxLen) (w : World) :
    Calls Tryz.prog 106 #[.string s] w fun e w' => e = .returned (.bool (textB s)) ∧ w = w' := by
  unfold maxLen at hs
  obtain ⟨r, hr⟩ : ∃ r, textB s = r := ⟨_, rfl⟩
  rw [hr]
  have HR := Lib.hid hr
  clear hr
  go_enter Tryz.func106, Tryz.ntmps106
  go_wp2_with fail
  go_loopg [3] (s.size) (fun m i wr => ∃ k : Nat, k ≤ s.size ∧ m = s.size - k ∧ i = .int .i64 k ∧ AllTo txtB s k ∧ w = wr)
  case atStart => exact ⟨0, by omega, rfl, rfl, fun j _ h => absurd h (by omega), rfl⟩
  case round =>
    obtain ⟨k, hk, rfl, rfl, hL, rfl⟩ := hrel
    by_cases hlt : k < s.size
    · by_cases b0 : s[k].toNat = 10
      · have g0 : ((s[k].toNat : Int) != 10) = false := by simp; omega
        have HS := Lib.hid (hL.step hlt (by simp [txtB, b0]))
        clear b0 hL
        go_wp2_with fail
        go_roundg (s.size - (k + 1))
        case measure => omega
        case rel => exact ⟨k + 1, by omega, rfl, by go_num, HS.out, rfl⟩
      · have g0 : ((s[k].toNat : Int) != 10) = true := by simp; omega
        by_cases b1 : s[k].toNat < 32
        · have g1 : decide ((s[k].toNat : Int) < 32) = true := by simp; omega
          have HS : Hid (false = r) := Lib.hid (by rw [← HR.out]; unfold textB; rw [AllTo.stop hlt (p := txtB) (by simp [txtB, plainB]; omega)]; simp)
          clear b0 b1 hL
          go_wp2_with fail
          go_ret
          exact ⟨ret_bool HS.out, rfl⟩
        · have g1 : decide ((s[k].toNat : Int) < 32) = false := by simp; omega
          by_cases b2 : 126 < s[k].toNat
          · have g2 : decide ((126 : Int) < (s[k].toNat : Int)) = true := by simp; omega
            have HS : Hid (false = r) := Lib.hid (by rw [← HR.out]; unfold textB; rw [AllTo.stop hlt (p := txtB) (by simp [txtB, plainB]; omega)]; simp)
            clear b0 b1 b2 hL
            go_wp2_with fail
            go_ret
            exact ⟨ret_bool HS.out, rfl⟩
          · have g2 : decide ((126 : Int) < (s[k].toNat : Int)) = false := by simp; omega
            have HS := Lib.hid (hL.step hlt (by simp [txtB, plainB]; omega))
            clear b0 b1 b2 hL
            go_wp2_with fail
            go_roundg (s.size - (k + 1))
            case measure => omega
            case rel => exact ⟨k + 1, by omega, rfl, by go_num, HS.out, rfl⟩
    · have ha := hL.ends (by omega)
      have HN := HR.out
      unfold textB at HN
      rw [ha, Bool.and_true] at HN
      clear hL ha
      by_cases z2 : s.size ≤ 2000
      · have HS : Hid (true = r) := Lib.hid (by rw [← HN]; simp [z2])
        have z3 : (s.size : Int) ≤ 2000 := by omega
        clear HN
        go_wp2_with fail
        go_ret
        exact ⟨ret_bool HS.out, rfl⟩
      · have HS : Hid (false = r) := Lib.hid (by rw [← HN]; simp [z2])
        have z3 : ¬ (s.size : Int) ≤ 2000 := by omega
        clear HN
        go_wp2_with fail
        go_ret
        exact ⟨ret_bool HS.out, rfl⟩
end Go.Proofs.YtedabholcldgbaaGreatDoor
