/- Bytes and strings: what the small functions on bytes tell. -/
import Derived.Test.YtedabholcldgbaaGreatDoorCmp
import Derived.BigGuardPart
namespace Go.Proofs.YtedabholcldgbaaGreatDoor
open Go.RowKit Go.Deep

def plainB (b : Int) : Bool := decide (33 ≤ b) && decide (b ≤ 126)
def digB (b : Int) : Bool := decide (48 ≤ b) && decide (b ≤ 57)
def tokB (b : Int) : Bool := plainB b && (b != 40) && (b != 41) && (b != 34) && (b != 59)
def blankB (b : Int) : Bool := (b == 32) || (b == 9) || (b == 10)
def txtB (b : Int) : Bool := (b == 10) || (b == 32) || plainB b
/-- A function of a byte that only tells. -/
def BOk (K : FuncId) (p : Int → Bool) : Prop := ∀ (b : Int) (w : World), Calls Tryz.prog K #[.int .u8 b] w fun e w' => e = .returned (.bool (p b)) ∧ w = w'

theorem plain_ok : BOk 112 plainB := by
  intro b w
  by_cases h1 : 33 ≤ b
  · by_cases h2 : b ≤ 126
    · have e : plainB b = true := by simp [plainB, h1, h2]
      rw [e]
      go_enter Tryz.func112, Tryz.ntmps112
      go_wp2
      go_ret
      exact ⟨rfl, rfl⟩
    · have e : plainB b = false := by simp [plainB, h2]
      rw [e]
      go_enter Tryz.func112, Tryz.ntmps112
      go_wp2
      go_ret
      exact ⟨rfl, rfl⟩
  · have e : plainB b = false := by simp [plainB, h1]
    have h1' : decide (33 ≤ b) = false := by simpa using h1
    rw [e]
    go_enter Tryz.func112, Tryz.ntmps112
    go_wp2
    go_ret
    exact ⟨rfl, rfl⟩
theorem dig_ok : BOk 159 digB := by
  intro b w
  by_cases h1 : 48 ≤ b
  · by_cases h2 : b ≤ 57
    · have e : digB b = true := by simp [digB, h1, h2]
      rw [e]
      go_enter Tryz.func159, Tryz.ntmps159
      go_wp2
      go_ret
      exact ⟨rfl, rfl⟩
    · have e : digB b = false := by simp [digB, h2]
      rw [e]
      go_enter Tryz.func159, Tryz.ntmps159
      go_wp2
      go_ret
      exact ⟨rfl, rfl⟩
  · have e : digB b = false := by simp [digB, h1]
    have h1' : decide (48 ≤ b) = false := by simpa using h1
    rw [e]
    go_enter Tryz.func159, Tryz.ntmps159
    go_wp2
    go_ret
    exact ⟨rfl, rfl⟩
theorem tok_ok : BOk 133 tokB := by
  intro b w
  have HP := Lib.hid (plain_ok b)
  cases hp : plainB b with
  | false =>
    have e : tokB b = false := by simp [tokB, hp]
    rw [hp] at HP
    rw [e]
    clear hp e
    go_enter Tryz.func133, Tryz.ntmps133
    go_wp2_with (go_at_call 112; refine (HP.out _).mono ?_; rintro e w2 ⟨rfl, rfl⟩)
    go_ret
    exact ⟨rfl, rfl⟩
  | true =>
    rw [hp] at HP
    obtain ⟨r, hr⟩ : ∃ r, tokB b = r := ⟨_, rfl⟩
    rw [hr]
    have HR := Lib.hid hr
    clear hr
    by_cases h1 : b = 40
    · subst h1
      obtain rfl : false = r := HR.out
      go_enter Tryz.func133, Tryz.ntmps133
      go_wp2_with (go_at_call 112; refine (HP.out _).mono ?_; rintro e w2 ⟨rfl, rfl⟩)
      go_ret
      exact ⟨rfl, rfl⟩
    · have g1 : (b != 40) = true := by simpa using h1
      by_cases h2 : b = 41
      · subst h2
        obtain rfl : false = r := HR.out
        go_enter Tryz.func133, Tryz.ntmps133
        go_wp2_with (go_at_call 112; refine (HP.out _).mono ?_; rintro e w2 ⟨rfl, rfl⟩)
        go_ret
        exact ⟨rfl, rfl⟩
      · have g2 : (b != 41) = true := by simpa using h2
        by_cases h3 : b = 34
        · subst h3
          obtain rfl : false = r := HR.out
          go_enter Tryz.func133, Tryz.ntmps133
          go_wp2_with (go_at_call 112; refine (HP.out _).mono ?_; rintro e w2 ⟨rfl, rfl⟩)
          go_ret
          exact ⟨rfl, rfl⟩
        · have g3 : (b != 34) = true := by simpa using h3
          by_cases h4 : b = 59
          · subst h4
            obtain rfl : false = r := HR.out
            go_enter Tryz.func133, Tryz.ntmps133
            go_wp2_with (go_at_call 112; refine (HP.out _).mono ?_; rintro e w2 ⟨rfl, rfl⟩)
            go_ret
            exact ⟨rfl, rfl⟩
          · have g4 : (b != 59) = true := by simpa using h4
            obtain rfl : true = r := by have := HR.out; rw [tokB, hp, g1, g2, g3, g4] at this; exact this
            clear hp h1 h2 h3 h4
            go_enter Tryz.func133, Tryz.ntmps133
            go_wp2_with (go_at_call 112; refine (HP.out _).mono ?_; rintro e w2 ⟨rfl, rfl⟩)
            go_ret
            exact ⟨rfl, rfl⟩
theorem blank_ok : BOk 109 blankB := by
  intro b w
  by_cases h1 : b = 32
  · subst h1
    go_enter Tryz.func109, Tryz.ntmps109
    go_wp2
    go_ret
    exact ⟨rfl, rfl⟩
  · have g1 : (b == 32) = false := by simpa using h1
    by_cases h2 : b = 9
    · subst h2
      go_enter Tryz.func109, Tryz.ntmps109
      go_wp2
      go_ret
      exact ⟨rfl, rfl⟩
    · have g2 : (b == 9) = false := by simpa using h2
      have e : blankB b = (b == 10) := by rw [blankB, g1, g2]; rfl
      rw [e]
      clear h1 h2 e
      go_enter Tryz.func109, Tryz.ntmps109
      go_wp2
      go_ret
      exact ⟨rfl, rfl⟩
theorem txt_ok : BOk 135 txtB := by
  intro b w
  by_cases h1 : b = 10
  · subst h1
    go_enter Tryz.func135, Tryz.ntmps135
    go_wp2
    go_ret
    exact ⟨rfl, rfl⟩
  · have g1 : (b == 10) = false := by simpa using h1
    by_cases h2 : b = 32
    · subst h2
      go_enter Tryz.func135, Tryz.ntmps135
      go_wp2
      go_ret
      exact ⟨rfl, rfl⟩
    · have g2 : (b == 32) = false := by simpa using h2
      have e : txtB b = plainB b := by rw [txtB, g1, g2]; rfl
      rw [e]
      clear h1 h2 e
      go_enter Tryz.func135, Tryz.ntmps135
      go_wp2_with (go_at_call 112; refine (plain_ok _ _).mono ?_; rintro e w2 ⟨rfl, rfl⟩)
      go_ret
      exact ⟨rfl, rfl⟩

/-! ### allBytes -/
def allB (p : Int → Bool) (s : ByteArray) : Bool := s.data.toList.all fun c => p (c.toNat : Int)
def AllTo (p : Int → Bool) (s : ByteArray) (k : Nat) : Prop := ∀ j (h : j < s.size), j < k → p (s[j].toNat : Int) = true
theorem AllTo.ends {p : Int → Bool} {s : ByteArray} {k : Nat} (h : AllTo p s k) (hk : s.size ≤ k) : allB p s = true := by
  unfold allB
  rw [List.all_eq_true]
  intro c hc
  obtain ⟨j, hj, rfl⟩ := List.getElem_of_mem hc
  have hj' : j < s.size := by simpa using hj
  exact h j hj' (by omega)
theorem AllTo.stop {p : Int → Bool} {s : ByteArray} {k : Nat} (hk : k < s.size) (hp : p (s[k].toNat : Int) = false) : allB p s = false := by
  unfold allB
  rw [List.all_eq_false]
  exact ⟨s[k], by rw [show s[k] = s.data.toList[k]'(by simpa using hk) from rfl]; exact List.getElem_mem _, by simp [hp]⟩
theorem AllTo.step {p : Int → Bool} {s : ByteArray} {k : Nat} (h : AllTo p s k) (hk : k < s.size) (hp : p (s[k].toNat : Int) = true) : AllTo p s (k + 1) := by
  intro j hj hlt
  by_cases e : j = k
  · subst e; exact hp
  · exact h j hj (by omega)

theorem all_tok (s : ByteArray) (hs : s.size ≤ maxLen) (w : World) :
    Calls Tryz.prog 132 #[.string s, .func (.func 133) #[] #[]] w fun e w' => e = .returned (.bool (allB tokB s)) ∧ w = w' := by
  unfold maxLen at hs
  go_enter Tryz.func132, Tryz.ntmps132
  go_wp2_with fail
  go_loopg [8] (s.size) (fun m i wr => ∃ k : Nat, k ≤ s.size ∧ m = s.size - k ∧ i = .int .i64 k ∧ AllTo tokB s k ∧ w = wr)
  case atStart => exact ⟨0, by omega, rfl, rfl, fun j _ h => absurd h (by omega), rfl⟩
  case round =>
    obtain ⟨k, hk, rfl, rfl, hL, rfl⟩ := hrel
    by_cases hlt : k < s.size
    · have HP := Lib.hid (tok_ok (s[k].toNat : Int) w)
      cases hp : tokB (s[k].toNat : Int) with
      | true =>
        rw [hp] at HP
        have HS := Lib.hid (hL.step hlt hp)
        clear hp
        go_wp2_with (go_at_call 133; refine (HP.out).mono ?_; rintro e w2 ⟨rfl, rfl⟩)
        go_roundg (s.size - (k + 1))
        case measure => omega
        case rel => exact ⟨k + 1, by omega, rfl, by go_num, HS.out, rfl⟩
      | false =>
        rw [hp] at HP
        have HS := Lib.hid (AllTo.stop hlt hp)
        clear hp
        go_wp2_with (go_at_call 133; refine (HP.out).mono ?_; rintro e w2 ⟨rfl, rfl⟩)
        go_ret
        exact ⟨ret_bool HS.out.symm, rfl⟩
    · have HS := Lib.hid (hL.ends (by omega))
      go_wp2_with fail
      go_ret
      exact ⟨ret_bool HS.out.symm, rfl⟩

theorem all_dig (s : ByteArray) (hs : s.size ≤ maxLen) (w : World) :
    Calls Tryz.prog 132 #[.string s, .func (.func 159) #[] #[]] w fun e w' => e = .returned (.bool (allB digB s)) ∧ w = w' := by
  unfold maxLen at hs
  go_enter Tryz.func132, Tryz.ntmps132
  go_wp2_with fail
  go_loopg [8] (s.size) (fun m i wr => ∃ k : Nat, k ≤ s.size ∧ m = s.size - k ∧ i = .int .i64 k ∧ AllTo digB s k ∧ w = wr)
  case atStart => exact ⟨0, by omega, rfl, rfl, fun j _ h => absurd h (by omega), rfl⟩
  case round =>
    obtain ⟨k, hk, rfl, rfl, hL, rfl⟩ := hrel
    by_cases hlt : k < s.size
    · have HP := Lib.hid (dig_ok (s[k].toNat : Int) w)
      cases hp : digB (s[k].toNat : Int) with
      | true =>
        rw [hp] at HP
        have HS := Lib.hid (hL.step hlt hp)
        clear hp
        go_wp2_with (go_at_call 159; refine (HP.out).mono ?_; rintro e w2 ⟨rfl, rfl⟩)
        go_roundg (s.size - (k + 1))
        case measure => omega
        case rel => exact ⟨k + 1, by omega, rfl, by go_num, HS.out, rfl⟩
      | false =>
        rw [hp] at HP
        have HS := Lib.hid (AllTo.stop hlt hp)
        clear hp
        go_wp2_with (go_at_call 159; refine (HP.out).mono ?_; rintro e w2 ⟨rfl, rfl⟩)
        go_ret
        exact ⟨ret_bool HS.out.symm, rfl⟩
    · have HS := Lib.hid (hL.ends (by omega))
      go_wp2_with fail
      go_ret
      exact ⟨ret_bool HS.out.symm, rfl⟩

theorem all_txt (s : ByteArray) (hs : s.size ≤ maxLen) (w : World) :
    Calls Tryz.prog 132 #[.string s, .func (.func 135) #[] #[]] w fun e w' => e = .returned (.bool (allB txtB s)) ∧ w = w' := by
  unfold maxLen at hs
  go_enter Tryz.func132, Tryz.ntmps132
  go_wp2_with fail
  go_loopg [8] (s.size) (fun m i wr => ∃ k : Nat, k ≤ s.size ∧ m = s.size - k ∧ i = .int .i64 k ∧ AllTo txtB s k ∧ w = wr)
  case atStart => exact ⟨0, by omega, rfl, rfl, fun j _ h => absurd h (by omega), rfl⟩
  case round =>
    obtain ⟨k, hk, rfl, rfl, hL, rfl⟩ := hrel
    by_cases hlt : k < s.size
    · have HP := Lib.hid (txt_ok (s[k].toNat : Int) w)
      cases hp : txtB (s[k].toNat : Int) with
      | true =>
        rw [hp] at HP
        have HS := Lib.hid (hL.step hlt hp)
        clear hp
        go_wp2_with (go_at_call 135; refine (HP.out).mono ?_; rintro e w2 ⟨rfl, rfl⟩)
        go_roundg (s.size - (k + 1))
        case measure => omega
        case rel => exact ⟨k + 1, by omega, rfl, by go_num, HS.out, rfl⟩
      | false =>
        rw [hp] at HP
        have HS := Lib.hid (AllTo.stop hlt hp)
        clear hp
        go_wp2_with (go_at_call 135; refine (HP.out).mono ?_; rintro e w2 ⟨rfl, rfl⟩)
        go_ret
        exact ⟨ret_bool HS.out.symm, rfl⟩
    · have HS := Lib.hid (hL.ends (by omega))
      go_wp2_with fail
      go_ret
      exact ⟨ret_bool HS.out.symm, rfl⟩
end Go.Proofs.YtedabholcldgbaaGreatDoor
