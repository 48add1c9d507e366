/- What a word, a text, a number may be: the small functions behind Valid. -/
import Derived.Test.YtedabholcldgbaaGreatDoorBytes
import Derived.Test.YtedabholcldgbaaGreatDoorWalk
namespace Go.Proofs.YtedabholcldgbaaGreatDoor
open Go.RowKit Go.Deep

/-- Digits, or - and digits. -/
def numL (l : List UInt8) : Bool := !(Lib.trimPrefix l [45]).isEmpty && (Lib.trimPrefix l [45]).all fun c => digB (c.toNat : Int)
def numB (s : ByteArray) : Bool := numL s.data.toList
theorem toList_nil {d : ByteArray} (h : d.size = 0) : d.toList = [] := by
  rw [Lib.toList_data]; have : d.data.toList.length = 0 := by simpa using h
  exact List.length_eq_zero_iff.1 this
theorem toList_ne {d : ByteArray} (h : d.size ≠ 0) : d.toList ≠ [] := by
  rw [Lib.toList_data]; intro e; apply h
  have : d.data.toList.length = 0 := by rw [e]; rfl
  simpa using this
theorem numeral_any (s : ByteArray) (hs : s.size ≤ maxLen) (w : World) :
    Calls Tryz.prog 134 #[.string s] w fun e w' => e = .returned (.bool (numB s)) ∧ w = w' := by
  obtain ⟨d, hd⟩ : ∃ d : ByteArray, d = ⟨(Lib.trimPrefix s.data.toList [45]).toArray⟩ := ⟨_, rfl⟩
  have hdl : d.data.toList = Lib.trimPrefix s.data.toList [45] := by rw [hd]
  have hds : d.size ≤ maxLen := by
    have h1 : (Lib.trimPrefix s.data.toList [45]).length ≤ s.data.toList.length := by
      unfold Lib.trimPrefix; split
      · simp
      · exact Nat.le_refl _
    have h2 : d.size = (Lib.trimPrefix s.data.toList [45]).length := by rw [← hdl]; simp
    have h3 : s.data.toList.length = s.size := by simp
    omega
  have HT := Lib.hid (Tryz.strings_TrimPrefix s ⟨#[45]⟩ w)
  rw [show (⟨#[45]⟩ : ByteArray).data.toList = [45] from rfl, ← hd] at HT
  have HA := Lib.hid (all_dig d hds w)
  have hn : numB s = (!d.data.toList.isEmpty && allB digB d) := by unfold numB numL allB; rw [hdl]
  rw [hn]
  clear hn hd hdl hds
  by_cases hz : d.size = 0
  · have h1 := toList_nil hz
    have h2 : d.data.toList.isEmpty = true := by rw [← Lib.toList_data, h1]; rfl
    rw [h2]
    clear h2 hz
    go_enter Tryz.func134, Tryz.ntmps134
    go_wp2_with (go_at_call 158; refine HT.out.mono ?_; rintro e w2 ⟨rfl, rfl⟩)
    go_ret
    exact ⟨rfl, rfl⟩
  · have h1 := toList_ne hz
    have h2 : d.data.toList.isEmpty = false := by rw [← Lib.toList_data]; simpa using h1
    have h3 : (d.toList == []) = false := by simpa using h1
    have h4 : (d.toList.isEmpty) = false := by simpa using h1
    rw [h2]
    clear h2 hz
    go_enter Tryz.func134, Tryz.ntmps134
    go_wp2_with (first
      | (go_at_call 158; refine HT.out.mono ?_; rintro e w2 ⟨rfl, rfl⟩)
      | (go_at_call 132; refine HA.out.mono ?_; rintro e w2 ⟨rfl, rfl⟩))
    go_ret
    exact ⟨rfl, rfl⟩

def rangeB (n : Int) : Bool := decide (-1152921504606846976 ≤ n) && decide (n ≤ 1152921504606846976)
theorem range_any (n : Int) (w : World) :
    Calls Tryz.prog 91 #[.int .i64 n] w fun e w' => e = .returned (.bool (rangeB n)) ∧ w = w' := by
  by_cases h1 : -1152921504606846976 ≤ n
  · by_cases h2 : n ≤ 1152921504606846976
    · have e : rangeB n = true := by simp [rangeB, h1, h2]
      rw [e]
      go_enter Tryz.func91, Tryz.ntmps91
      go_wp2
      go_ret
      exact ⟨rfl, rfl⟩
    · have e : rangeB n = false := by simp [rangeB, h2]
      rw [e]
      go_enter Tryz.func91, Tryz.ntmps91
      go_wp2
      go_ret
      exact ⟨rfl, rfl⟩
  · have e : rangeB n = false := by simp [rangeB, h1]
    have h1' : decide (-1152921504606846976 ≤ n) = false := by simpa using h1
    rw [e]
    go_enter Tryz.func91, Tryz.ntmps91
    go_wp2
    go_ret
    exact ⟨rfl, rfl⟩

def wordB (s : ByteArray) : Bool := decide (1 ≤ s.size) && decide (s.size ≤ 30) && allB tokB s && !numB s
theorem word_any (s : ByteArray) (hs : s.size ≤ maxLen) (w : World) :
    Calls Tryz.prog 92 #[.string s] w fun e w' => e = .returned (.bool (wordB s)) ∧ w = w' := by
  have HA := Lib.hid (all_tok s hs w)
  have HN := Lib.hid (numeral_any s hs w)
  obtain ⟨r, hr⟩ : ∃ r, wordB s = r := ⟨_, rfl⟩
  rw [hr]
  by_cases h1 : 1 ≤ s.size
  · have g1 : (1 : Int) ≤ (s.size : Int) := by omega
    by_cases h2 : s.size ≤ 30
    · have g2 : (s.size : Int) ≤ 30 := by omega
      cases h3 : allB tokB s with
      | true =>
        rw [h3] at HA
        have e : (!numB s) = r := by rw [← hr]; simp [wordB, h1, h2, h3]
        subst e
        clear hr h3
        go_enter Tryz.func92, Tryz.ntmps92
        go_wp2_with (first
          | (go_at_call 132; refine HA.out.mono ?_; rintro e w2 ⟨rfl, rfl⟩)
          | (go_at_call 134; refine HN.out.mono ?_; rintro e w2 ⟨rfl, rfl⟩))
        go_ret
        exact ⟨rfl, rfl⟩
      | false =>
        rw [h3] at HA
        obtain rfl : false = r := by rw [← hr]; simp [wordB, h3]
        clear hr h3
        go_enter Tryz.func92, Tryz.ntmps92
        go_wp2_with (go_at_call 132; refine HA.out.mono ?_; rintro e w2 ⟨rfl, rfl⟩)
        go_ret
        exact ⟨rfl, rfl⟩
    · obtain rfl : false = r := by rw [← hr]; simp [wordB, h2]
      have g2 : decide ((s.size : Int) ≤ 30) = false := by simp; omega
      clear hr h2
      go_enter Tryz.func92, Tryz.ntmps92
      go_wp2_with fail
      go_ret
      exact ⟨rfl, rfl⟩
  · obtain rfl : false = r := by rw [← hr]; simp [wordB, h1]
    have g1 : decide ((1 : Int) ≤ (s.size : Int)) = false := by simp; omega
    clear hr h1
    go_enter Tryz.func92, Tryz.ntmps92
    go_wp2_with fail
    go_ret
    exact ⟨rfl, rfl⟩
def textB (s : ByteArray) : Bool := decide (s.size ≤ 2000) && allB txtB s
theorem text_any (s : ByteArray) (hs : s.size ≤ maxLen) (w : World) :
    Calls Tryz.prog 93 #[.string s] w fun e w' => e = .returned (.bool (textB s)) ∧ w = w' := by
  have HA := Lib.hid (all_txt s hs w)
  obtain ⟨r, hr⟩ : ∃ r, textB s = r := ⟨_, rfl⟩
  rw [hr]
  by_cases h2 : s.size ≤ 2000
  · have g2 : (s.size : Int) ≤ 2000 := by omega
    have e : allB txtB s = r := by rw [← hr]; simp [textB, h2]
    rw [e] at HA
    clear hr e
    go_enter Tryz.func93, Tryz.ntmps93
    go_wp2_with (go_at_call 132; refine HA.out.mono ?_; rintro e w2 ⟨rfl, rfl⟩)
    go_ret
    exact ⟨rfl, rfl⟩
  · obtain rfl : false = r := by rw [← hr]; simp [textB, h2]
    have g2 : decide ((s.size : Int) ≤ 2000) = false := by simp; omega
    clear hr h2
    go_enter Tryz.func93, Tryz.ntmps93
    go_wp2_with fail
    go_ret
    exact ⟨rfl, rfl⟩
end Go.Proofs.YtedabholcldgbaaGreatDoor
