/- shape.must, isExprWord. -/
import Derived.Test.YtmlfiopbdlaaaaaGreatRef
import Derived.Test.YtmlfiopbdlaaaaaGreatNRes
import Derived.Test.YtmlfiopbdlaaaaaGreatNIn
namespace Go.Proofs.YtmlfiopbdlaaaaaGreat
open Go.RowKit Go.Deep

theorem must_any (b : Bool) (c : Int) (w : World) :
    Calls Tryz.prog 78 #[.bool b, .int .i64 c] w fun e w' => AnsE (if b then none else some c) e ∧ w = w' := by
  cases b with
  | true =>
    go_enter Tryz.func78, Tryz.ntmps78
    go_wp2
    go_end0
    exact ⟨rfl, rfl⟩
  | false =>
    go_enter Tryz.func78, Tryz.ntmps78
    go_wp2
    exact ⟨rfl, rfl, rfl⟩
def fiveL : List (List UInt8) := [[116, 114, 117, 101], [102, 97, 108, 115, 101], [110, 117, 108, 108], [116, 104, 105, 115], [114, 101, 115, 117, 108, 116]]
/-- Is a word an expression? -/
def exprW (s : ByteArray) : Bool := decide (s.data.toList ∈ fiveL) || !resv s
theorem neqL {s : ByteArray} {l : List UInt8} (h : ¬ s.data.toList = l) : (s.toList == l) = false := by rw [beq_eq_false_iff_ne, Lib.toList_data]; exact h
theorem isL {s : ByteArray} {l : List UInt8} (h : s.data.toList = l) : (s.toList == l) = true := by rw [beq_iff_eq, Lib.toList_data]; exact h
theorem exprWord_any (s : ByteArray) (hs : s.size ≤ 1000) (w : World) (hm : MaxIs w) :
    Calls Tryz.prog 79 #[.string s] w fun e w' => e = .returned (.bool (exprW s)) ∧ w = w' := by
  have HR := Lib.hid (resv_any s hs w hm)
  clear hm hs
  by_cases h1 : s.data.toList = [116, 114, 117, 101]
  · have e : exprW s = true := by simp [exprW, fiveL, h1]
    have g1 := isL h1
    rw [e]; clear e h1
    go_enter Tryz.func79, Tryz.ntmps79
    go_wp2
    go_ret
    exact ⟨rfl, rfl⟩
  have g1 := neqL h1
  by_cases h2 : s.data.toList = [102, 97, 108, 115, 101]
  · have e : exprW s = true := by simp [exprW, fiveL, h2]
    have g2 := isL h2
    rw [e]; clear e h1 h2
    go_enter Tryz.func79, Tryz.ntmps79
    go_wp2
    go_ret
    exact ⟨rfl, rfl⟩
  have g2 := neqL h2
  by_cases h3 : s.data.toList = [110, 117, 108, 108]
  · have e : exprW s = true := by simp [exprW, fiveL, h3]
    have g3 := isL h3
    rw [e]; clear e h1 h2 h3
    go_enter Tryz.func79, Tryz.ntmps79
    go_wp2
    go_ret
    exact ⟨rfl, rfl⟩
  have g3 := neqL h3
  by_cases h4 : s.data.toList = [116, 104, 105, 115]
  · have e : exprW s = true := by simp [exprW, fiveL, h4]
    have g4 := isL h4
    rw [e]; clear e h1 h2 h3 h4
    go_enter Tryz.func79, Tryz.ntmps79
    go_wp2
    go_ret
    exact ⟨rfl, rfl⟩
  have g4 := neqL h4
  by_cases h5 : s.data.toList = [114, 101, 115, 117, 108, 116]
  · have e : exprW s = true := by simp [exprW, fiveL, h5]
    have g5 := isL h5
    rw [e]; clear e h1 h2 h3 h4 h5
    go_enter Tryz.func79, Tryz.ntmps79
    go_wp2
    go_ret
    exact ⟨rfl, rfl⟩
  have g5 := neqL h5
  have e : exprW s = !resv s := by simp [exprW, fiveL, h1, h2, h3, h4, h5]
  rw [e]; clear e h1 h2 h3 h4 h5
  go_enter Tryz.func79, Tryz.ntmps79
  go_wp2_with (go_at_call 57; refine HR.out.mono ?_; rintro e w2 ⟨rfl, rfl⟩)
  go_ret
  exact ⟨rfl, rfl⟩
end Go.Proofs.YtmlfiopbdlaaaaaGreat
