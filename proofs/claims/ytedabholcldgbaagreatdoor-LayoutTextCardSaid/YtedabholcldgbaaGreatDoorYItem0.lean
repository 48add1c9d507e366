/- The document's own walk over a text: blank, ends, quoted, trimmed. -/
import Derived.Test.YtedabholcldgbaaGreatDoorYOpen
import Derived.Test.YtedabholcldgbaaGreatDoorBytes
import Derived.Test.YtedabholcldgbaaGreatDoorStep
namespace Go.Proofs.YtedabholcldgbaaGreatDoor.Y
open Go.RowKit Go.Deep

theorem bytes_nil0 {d : ByteArray} (h : d.size = 0) : d = ⟨#[]⟩ := by
  apply ByteArray.ext
  apply Array.eq_empty_of_size_eq_zero
  exact h
theorem rblank_ok : BOk 85 blankB := by
  intro b w
  by_cases h1 : b = 32
  · subst h1
    go_enter Tryz.func85, Tryz.ntmps85
    go_wp2
    go_ret
    exact ⟨rfl, rfl⟩
  · have g1 : (b == 32) = false := by simpa using h1
    by_cases h2 : b = 9
    · subst h2
      go_enter Tryz.func85, Tryz.ntmps85
      go_wp2
      go_ret
      exact ⟨rfl, rfl⟩
    · have g2 : (b == 9) = false := by simpa using h2
      have e : blankB b = (b == 10) := by rw [blankB, g1, g2]; rfl
      rw [e]
      clear h1 h2 e
      go_enter Tryz.func85, Tryz.ntmps85
      go_wp2
      go_ret
      exact ⟨rfl, rfl⟩
/-- How far it is to the line's end. -/
def endF : List UInt8 → Nat
  | [] => 0
  | b :: r => if b.toNat = 10 then 0 else endF r + 1
theorem endF_le : ∀ l : List UInt8, endF l ≤ l.length
  | [] => by simp [endF]
  | b :: r => by
    have := endF_le r
    rw [endF]
    split
    · omega
    · simp only [List.length_cons]; omega
theorem end_end (s : ByteArray) (k : Nat) (h : s.size ≤ k) : endF (s.data.toList.drop k) = 0 := by
  rw [List.drop_of_length_le (by simpa using h), endF]
set_option linter.unusedSimpArgs false in
set_option maxHeartbeats 2000000 in
theorem ends_any (s : ByteArray) (a : Nat) (ha : a ≤ s.size) (hs : s.size ≤ 1000000000) (w : World) :
    Calls Tryz.prog 86 #[.string s, .int .i64 a] w fun e w' => e = .returned (.int .i64 (a + endF (s.data.toList.drop a) : Nat)) ∧ w = w' := by
  obtain ⟨R, hR⟩ : ∃ R, a + endF (s.data.toList.drop a) = R := ⟨_, rfl⟩
  rw [hR]
  have hs1 : (s.size : Int) ≤ 1000000000 := by omega
  have HR := Lib.hid hR
  clear hR
  go_enter Tryz.func86, Tryz.ntmps86
  go_wp2_with fail
  go_loopg [1] (s.size - a) (fun m i wr => ∃ k : Nat, k ≤ s.size ∧ m = s.size - k ∧ i = .int .i64 k ∧ R = k + endF (s.data.toList.drop k) ∧ w = wr)
  case atStart => exact ⟨a, ha, rfl, rfl, HR.out.symm, rfl⟩
  case round =>
    obtain ⟨k, hk, rfl, rfl, hr, rfl⟩ := hrel
    by_cases hlt : k < s.size
    · have gi : (k : Int) < (s.size : Int) := by omega
      have gi2 : (0 : Int) ≤ (k : Int) := by omega
      rw [drop_byte' s k hlt, endF] at hr
      by_cases h10 : s[k].toNat = 10
      · have g1 : ((s[k].toNat : Int) != 10) = false := by simp; omega
        rw [if_pos h10] at hr
        have HR2 := Lib.hid hr
        clear hr h10
        go_wp2_with fail
        go_ret
        exact ⟨ret_int (by have := HR2.out; omega), rfl⟩
      · have g1 : ((s[k].toNat : Int) != 10) = true := by simp; omega
        rw [if_neg h10] at hr
        have HR2 := Lib.hid hr
        clear hr h10
        go_wp2_with fail
        go_roundg (s.size - (k + 1))
        case measure => omega
        case rel => exact ⟨k + 1, by omega, rfl, by go_num, by have := HR2.out; omega, rfl⟩
    · have gi : ¬ (k : Int) < (s.size : Int) := by omega
      have HR2 := Lib.hid (hr.trans (by rw [end_end s k (by omega)]; rfl : k + endF (s.data.toList.drop k) = k))
      clear hr
      go_wp2_with fail
      go_ret
      exact ⟨ret_int (by have := HR2.out; omega), rfl⟩
/-- How far it is to a text's closing quote, of the bytes behind the opening one. -/
def qtF : List UInt8 → Nat
  | [] => 0
  | b :: r => if b.toNat = 34 then 0 else if b.toNat = 92 then qtF (r.drop 1) + 2 else qtF r + 1
termination_by l => l.length
decreasing_by all_goals (simp; try omega)
theorem qt_end (s : ByteArray) (k : Nat) (h : s.size ≤ k) : qtF (s.data.toList.drop k) = 0 := by
  rw [List.drop_of_length_le (by simpa using h), qtF]
set_option linter.unusedSimpArgs false in
set_option maxHeartbeats 2000000 in
theorem quoted_any (s : ByteArray) (a : Nat) (ha : a < s.size) (hs : s.size ≤ 1000000000) (w : World) :
    Calls Tryz.prog 130 #[.string s, .int .i64 a] w fun e w' => e = .returned (.int .i64 (a + 2 + qtF (s.data.toList.drop (a + 1)) : Nat)) ∧ w = w' := by
  obtain ⟨R, hR⟩ : ∃ R, a + 2 + qtF (s.data.toList.drop (a + 1)) = R := ⟨_, rfl⟩
  rw [hR]
  have hs1 : (s.size : Int) ≤ 1000000000 := by omega
  have HR := Lib.hid hR
  clear hR
  go_enter Tryz.func130, Tryz.ntmps130
  go_wp2_with fail
  go_loopg [1] (s.size + 1 - (a + 1)) (fun m i wr => ∃ k : Nat, k ≤ s.size + 1 ∧ m = s.size + 1 - k ∧ i = .int .i64 k ∧ R = k + 1 + qtF (s.data.toList.drop k) ∧ w = wr)
  case atStart => exact ⟨a + 1, by omega, rfl, by go_num, by have := HR.out; omega, rfl⟩
  case round =>
    obtain ⟨k, hk, rfl, rfl, hr, rfl⟩ := hrel
    by_cases hlt : k < s.size
    · have gi : (k : Int) < (s.size : Int) := by omega
      have gi2 : (0 : Int) ≤ (k : Int) := by omega
      rw [drop_byte' s k hlt, qtF] at hr
      by_cases h34 : s[k].toNat = 34
      · have g1 : ((s[k].toNat : Int) != 34) = false := by simp; omega
        rw [if_pos h34] at hr
        have HR2 := Lib.hid hr
        clear hr h34
        go_wp2_with fail
        go_ret
        exact ⟨ret_int (by have := HR2.out; omega), rfl⟩
      · have g1 : ((s[k].toNat : Int) != 34) = true := by simp; omega
        rw [if_neg h34] at hr
        by_cases h92 : s[k].toNat = 92
        · have g2 : ((s[k].toNat : Int) == 92) = true := by simp; omega
          rw [if_pos h92, List.drop_drop] at hr
          have HR2 := Lib.hid hr
          clear hr h34 h92
          go_wp2_with fail
          go_roundg (s.size + 1 - (k + 2))
          case measure => omega
          case rel => exact ⟨k + 2, by omega, rfl, by go_num, by have h : R = k + 1 + (qtF (s.data.toList.drop (k + 2)) + 2) := HR2.out; omega, rfl⟩
        · have g2 : ((s[k].toNat : Int) == 92) = false := by simp; omega
          rw [if_neg h92] at hr
          have HR2 := Lib.hid hr
          clear hr h34 h92
          go_wp2_with fail
          go_roundg (s.size + 1 - (k + 1))
          case measure => omega
          case rel => exact ⟨k + 1, by omega, rfl, by go_num, by have := HR2.out; omega, rfl⟩
    · have gi : ¬ (k : Int) < (s.size : Int) := by omega
      have HR2 := Lib.hid (hr.trans (by rw [qt_end s k (by omega)] : k + 1 + qtF (s.data.toList.drop k) = k + 1 + 0))
      clear hr
      go_wp2_with fail
      go_ret
      exact ⟨ret_int (by have := HR2.out; omega), rfl⟩
/-- A text without blanks at its end. -/
def trmF (l : List UInt8) : List UInt8 := (l.reverse.dropWhile fun b => blankB (b.toNat : Int)).reverse
theorem trm_last {l : List UInt8} {b : UInt8} (h : blankB (b.toNat : Int) = true) : trmF (l ++ [b]) = trmF l := by
  unfold trmF; rw [List.reverse_append]; simp [h]
theorem trm_stop {l : List UInt8} {b : UInt8} (h : blankB (b.toNat : Int) = false) : trmF (l ++ [b]) = l ++ [b] := by
  unfold trmF; rw [List.reverse_append]; simp [h]
theorem ba_last {d : ByteArray} (h : 0 < d.size) : d.data.toList = (d.extract 0 (d.size - 1)).data.toList ++ [d[d.size - 1]] := by
  have e : (d.extract 0 (d.size - 1)).data.toList = d.data.toList.take (d.size - 1) := by
    simp only [ByteArray.data_extract, Array.toList_extract, List.extract_eq_take_drop]; simp
  rw [e]
  have hl : d.size - 1 < d.data.toList.length := by simp; omega
  have := List.take_succ_eq_append_getElem hl
  rw [show d.size - 1 + 1 = d.data.toList.length by simp; omega, List.take_length] at this
  exact this
set_option linter.unusedSimpArgs false in
set_option maxHeartbeats 2000000 in
theorem trimmed_any (s : ByteArray) (hs : s.size ≤ 1000000000) (w : World) :
    Calls Tryz.prog 87 #[.string s] w fun e w' => e = .returned (.string ⟨(trmF s.data.toList).toArray⟩) ∧ w = w' := by
  obtain ⟨R, hR⟩ : ∃ R, trmF s.data.toList = R := ⟨_, rfl⟩
  rw [hR]
  have HR := Lib.hid hR
  clear hR
  go_enter Tryz.func87, Tryz.ntmps87
  go_wp2_with fail
  go_loopg [0] (s.size) (fun m u wr => ∃ d : ByteArray, u = .string d ∧ m = d.size ∧ trmF d.data.toList = R ∧ d.size ≤ s.size ∧ w = wr)
  case atStart => exact ⟨s, rfl, rfl, HR.out, Nat.le_refl _, rfl⟩
  case round =>
    obtain ⟨d, rfl, rfl, hr, hd, rfl⟩ := hrel
    have hd1 : (d.size : Int) ≤ 1000000000 := by omega
    by_cases h0 : 0 < d.size
    · have ge : d.toList.isEmpty = false := by
        rw [ByteArray.toList_eq]
        cases hl : d.data.toList with
        | nil =>
          have h1 : d.data.toList.length = 0 := by rw [hl]; rfl
          have h2 : d.data.toList.length = d.size := by simp
          omega
        | cons a r => rfl
      have g0 : (0 : Int) < (d.size : Int) := by omega
      have gc : ((d.size : Int) - 1) = ((d.size - 1 : Nat) : Int) := by omega
      have hl := ba_last h0
      rw [hl] at hr
      have HB := Lib.hid (rblank_ok (d[d.size - 1].toNat : Int) w)
      cases hb : blankB (d[d.size - 1].toNat : Int) with
      | true =>
        rw [hb] at HB
        rw [trm_last hb] at hr
        have HR2 := Lib.hid hr
        clear hr hb hl
        go_wp2_with (go_at_call 85; (with_reducible refine HB.out.mono ?_); rintro e w' ⟨rfl, rfl⟩)
        go_roundg (d.size - 1)
        case measure => omega
        case rel => exact ⟨d.extract 0 (d.size - 1), rfl, by simp, HR2.out, by simp; omega, rfl⟩
      | false =>
        rw [hb] at HB
        rw [trm_stop hb, ← hl] at hr
        have HR2 := Lib.hid hr
        clear hr hb hl
        go_wp2_with (go_at_call 85; (with_reducible refine HB.out.mono ?_); rintro e w' ⟨rfl, rfl⟩)
        go_ret
        exact ⟨by rw [← HR2.out]; cases d; simp, rfl⟩
    · have hz : d = ⟨#[]⟩ := bytes_nil0 (by omega)
      subst hz
      have HR2 := Lib.hid hr
      clear hr
      go_wp2_with fail
      go_ret
      exact ⟨by rw [← HR2.out]; rfl, rfl⟩
end Go.Proofs.YtedabholcldgbaaGreatDoor.Y
