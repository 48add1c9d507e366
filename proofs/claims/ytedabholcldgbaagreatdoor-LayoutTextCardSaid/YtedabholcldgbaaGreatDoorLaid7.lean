/- What the rows' listed variables give, where the list holds seven. -/
import Derived.Test.YtedabholcldgbaaGreatDoorLaid
import Derived.Test.YtedabholcldgbaaGreatDoorAppForm
import Derived.Lib.LaidTab
import Derived.Lib.AppendIntMem
import Derived.Lay
import Derived.PinnedBridge
namespace Go.Proofs.YtedabholcldgbaaGreatDoor
open Go.ChangeShapes Go.WideShapes Go.ChangeAt Go.RowKit

/-- The row's list. -/
abbrev laid7 : List (String × DataW Unit) := [("math/bits.deBruijn32tab", Rows.laid_math_bits_deBruijn32tab), ("math/bits.deBruijn64tab", Rows.laid_math_bits_deBruijn64tab), ("internal/strconv.uint64pow10", Rows.laid_internal_strconv_uint64pow10), ("unicode/utf8.acceptRanges", Rows.laid_unicode_utf8_acceptRanges), ("strconv.ErrRange", Rows.laid_strconv_ErrRange), ("strconv.ErrSyntax", Rows.laid_strconv_ErrSyntax), ("unicode/utf8.first", Rows.laid_unicode_utf8_first)]
theorem gPow : Tryz.prog.globalNamed "internal/strconv.uint64pow10" = some 1 := by kernel_rfl
theorem tPow : (Tryz.prog.globals[1]?).map (·.type) = some 152 := by kernel_rfl
theorem cellsPow : Tryz.prog.cellsOf 152 = 20 := by kernel_rfl
theorem cellsU64 : Tryz.prog.cellsOf 123 = 1 := by kernel_rfl
theorem powData : (Rows.laid_internal_strconv_uint64pow10 : DataW Unit) = Lib.tabData .u64 Lib.pow10Tab := by kernel_rfl
/-- What the list gives. -/
theorem of_laid7 {W : World} (h : laidMetH Tryz.prog laid7 W) : Glob W ∧ 8 ≤ W.heap.size ∧ Tab W.heap.size W := by
  rw [MakeChecks.laidMetH_plain _ _ _ (by kernel_rfl)] at h
  have h1 := h.tail
  have h2 := h1.tail
  have h3 := h2.tail.tail
  obtain ⟨a, s, hv, _⟩ := laid_sentinel h3 gRng tRng Tryz.underlying145 rowErr Tryz.underlying180 Tryz.underlying182 rfl rfl Tryz.underlying9 cellsErr cellsOf9
  obtain ⟨a', s', hv', _⟩ := laid_sentinel h3.tail gSyn tSyn Tryz.underlying145 rowErr Tryz.underlying180 Tryz.underlying182 rfl rfl Tryz.underlying9 cellsErr cellsOf9
  rw [powData] at h2
  have hT := Lib.tabBelow_of_tabIs (Lib.tabIs_of_head gPow tPow Tryz.underlying152 Tryz.underlying123 cellsU64 cellsPow h2)
  obtain ⟨ps, ⟨g0, t0, cs0, f0, p0, q0, hg0, ht0, hv0, _⟩, _⟩ := h
  obtain ⟨ps', ⟨g1, t1, cs1, f1, p1, q1, hg1, ht1, hv1, _⟩, _⟩ := h1
  refine ⟨⟨⟨_, by simpa using World.var?_cell gSyn hv' 0, Or.inr ⟨_, _, rfl⟩⟩, ⟨_, by simpa using World.var?_cell gRng hv 0, Or.inr ⟨_, _, rfl⟩⟩⟩, ?_, hT⟩
  have k0 := var_size gD32 hv0
  have k1 := var_size gD64 hv1
  have k2 := var_size gRng hv
  have k3 := var_size gSyn hv'
  omega
/-- A heap in which the list is laid meets it. -/
theorem all_met7 (os : Os) (args : Array Value) : laidMetH Tryz.prog laid7 ((World.laidAll Tryz.prog os laid7).forCall (fun _ _ => 0) ⟨#[], args, []⟩).memory := by
  rw [MakeChecks.laidMetH_plain _ _ _ (by kernel_rfl)]
  exact laidMet_laidAll _ (by kernel_rfl) (by kernel_rfl)
theorem all_shaped7 (os : Os) (args : Array Value) : ((World.laidAll Tryz.prog os laid7).forCall (fun _ _ => 0) ⟨#[], args, []⟩).Shaped Tryz.prog :=
  World.shaped_of_ZipB (by kernel_rfl) (by kernel_rfl)
/-- The row's witness, in a world that has its shape. -/
theorem witness7 {H : Type} {enc : TypeId × Value → H} {C : Checked} {os : Os} {f : FuncId} {fn : Func} {s : OpenSpec} {conds : List PathCond} {apart : Bool} {laid : List (String × DataW Unit)} (modest : Bool) (w0 : World) (args : Array Value) (hos : w0.os = os)
    (hsh : (w0.forCall (fun _ _ => 0) ⟨#[], args, []⟩).Shaped C.prog)
    (hok : Input.okWideB C.prog (w0.forCall (fun _ _ => 0) ⟨#[], args, []⟩) f ⟨#[], args, []⟩ = true)
    (hrow : s.preRow enc C.prog fn conds apart laid (w0.forCall (fun _ _ => 0) ⟨#[], args, []⟩).memory args) :
    ∃ (w : World) (tape : Tape) (i : Input), w.os = os ∧ (w.forCall tape i).Shaped C.prog ∧ i.vars = [] ∧ Input.okWide C.prog (w.forCall tape i) .any w.heap.size f i ∧
      s.preRow enc C.prog fn conds apart laid (w.forCall tape i).memory i.args ∧ ({ modest := modest } : Assume).holds C.prog (lone (Frame.enter C.prog f i.args .normal) [] (w.forCall tape i)) :=
  ⟨w0, fun _ _ => 0, ⟨#[], args, []⟩, hos, hsh, (Input.okWide_of_okWideB (base := 0) hok).1, (Input.okWide_of_okWideB hok).2, hrow, by
    simp only [Assume.holds]
    exact ⟨by simp, by simp, fun _ => Modest.zero, by simp, by simp⟩⟩
end Go.Proofs.YtedabholcldgbaaGreatDoor
