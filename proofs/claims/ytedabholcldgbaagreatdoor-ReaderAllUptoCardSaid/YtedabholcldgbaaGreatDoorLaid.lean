/- What the rows' listed variables give, the witness' world, and how an argument that is a form is opened and read again. -/
import Derived.Test.YtedabholcldgbaaGreatDoorRows
import Derived.Test.YtedabholcldgbaaGreatDoorToken
import Derived.Test.YtedabholcldgbaaGreatDoorOpen
import Derived.LaidMore
import Derived.MakeChecks
import Derived.Stop.LaidErr
import Derived.Carry
import Derived.OpenShut
import Derived.Deep.DeepHandedRow
import Derived.Deep.DeepWitnessRowRef
namespace Go.Proofs.YtedabholcldgbaaGreatDoor
open Go.ChangeShapes Go.WideShapes Go.ChangeAt Go.RowKit

theorem own : ownKnob Tryz.prog.godebug = none := by kernel_rfl
theorem laidOut : laidOutB Tryz.prog = true := by kernel_rfl
theorem gSyn : Tryz.prog.globalNamed "strconv.ErrSyntax" = some 6 := by kernel_rfl
theorem gRng : Tryz.prog.globalNamed "strconv.ErrRange" = some 7 := by kernel_rfl
theorem gD32 : Tryz.prog.globalNamed "math/bits.deBruijn32tab" = some 4 := by kernel_rfl
theorem gD64 : Tryz.prog.globalNamed "math/bits.deBruijn64tab" = some 5 := by kernel_rfl
theorem tSyn : (Tryz.prog.globals[6]?).map (·.type) = some 145 := by kernel_rfl
theorem tRng : (Tryz.prog.globals[7]?).map (·.type) = some 145 := by kernel_rfl
theorem star : "*" ++ "errors.errorString" = "*errors.errorString" := by decide
theorem rowErr (u : TypeId) (h : Tryz.prog.typeName? 3 u = some "*errors.errorString") : u = 180 :=
  typeName_ptr_named (nm := "errors.errorString") (by rw [star]; kernel_rfl) (by kernel_rfl) (by decide) u (by rw [star]; exact h)
theorem cellsErr : Tryz.prog.cellsOf 182 = 1 := by kernel_rfl

/-- The row's list. -/
abbrev laid5 : List (String × DataW Unit) := [("math/bits.deBruijn32tab", Rows.laid_math_bits_deBruijn32tab), ("math/bits.deBruijn64tab", Rows.laid_math_bits_deBruijn64tab), ("internal/strconv.uint64pow10", Rows.laid_internal_strconv_uint64pow10), ("strconv.ErrRange", Rows.laid_strconv_ErrRange), ("strconv.ErrSyntax", Rows.laid_strconv_ErrSyntax)]

theorem var_size {P : Program} {W : World} {n : String} {g : Nat} {cs : Array Value} (hg : P.globalNamed n = some g) (h : W.var? P n = some cs) : g < W.heap.size := by
  unfold World.var? at h
  simp only [hg, Option.bind_some] at h
  rcases Nat.lt_or_ge g W.heap.size with h' | h'
  · exact h'
  · simp [Array.getElem?_eq_none h'] at h

/-- What the list gives. -/
theorem of_laid {W : World} (h : laidMetH Tryz.prog laid5 W) : Glob W ∧ 8 ≤ W.heap.size := by
  rw [MakeChecks.laidMetH_plain _ _ _ (by kernel_rfl)] at h
  have h1 := h.tail
  have h3 := h1.tail.tail
  obtain ⟨a, s, hv, _⟩ := laid_sentinel h3 gRng tRng Tryz.underlying145 rowErr Tryz.underlying180 Tryz.underlying182 rfl rfl Tryz.underlying9 cellsErr cellsOf9
  obtain ⟨a', s', hv', _⟩ := laid_sentinel h3.tail gSyn tSyn Tryz.underlying145 rowErr Tryz.underlying180 Tryz.underlying182 rfl rfl Tryz.underlying9 cellsErr cellsOf9
  obtain ⟨ps, ⟨g0, t0, cs0, f0, p0, q0, hg0, ht0, hv0, _⟩, _⟩ := h
  obtain ⟨ps', ⟨g1, t1, cs1, f1, p1, q1, hg1, ht1, hv1, _⟩, _⟩ := h1
  refine ⟨⟨⟨_, by simpa using World.var?_cell gSyn hv' 0, Or.inr ⟨_, _, rfl⟩⟩, ⟨_, by simpa using World.var?_cell gRng hv 0, Or.inr ⟨_, _, rfl⟩⟩⟩, ?_⟩
  have k0 := var_size gD32 hv0
  have k1 := var_size gD64 hv1
  have k2 := var_size gRng hv
  omega

/-- The heap that the door's own run leaves meets the list. -/
theorem door_met (os : Os) (args : Array Value) : laidMetH Tryz.prog laid5 ((World.doorLaid Tryz.prog 400 os).forCall (fun _ _ => 0) ⟨#[], args, []⟩).memory :=
  laidMetH_of_parts3 (fuel := 8) (laidMet_of_run' 8 (by kernel_rfl) (by kernel_rfl)) (by kernel_rfl) (by kernel_rfl)

section
variable {H : Type} {enc : TypeId × Value → H} {w : World} {sp : Nat → Bool} {hd : Bool}
theorem agg_of_cells {v : Value} {cs : List Value} (h : v.cells.toList = cs) (h1 : cs.length ≠ 1) : v = .agg ⟨cs⟩ := by
  cases v <;> simp [Value.cells] at h <;> first | (subst h; simp at h1; done) | skip
  rename_i xs
  subst h
  rfl
/-- An argument that reads as a form. -/
theorem open_arg {base : Nat} {v : Value} {d : DataW H} {ps : List MemPlace} (h : DataW.Trod enc Tryz.prog w base sp hd 29 v d ps) : ∃ t : T, v = t.val ∧ In w t := by
  obtain ⟨fuel, hf⟩ := h
  obtain ⟨t, hc, hin⟩ := open_form fuel _ _ hf
  exact ⟨t, agg_of_cells hc (by simp), hin⟩
theorem rowForm : 29 < Tryz.prog.types.size := by
  exact of_decide_eq_true (by kernel_rfl)
theorem recForm : Tryz.prog.readableRec 29 = true := by kernel_rfl
/-- And reads so again. -/
theorem again_arg {w' : World} {v : Value} {d : DataW H} {ps : List MemPlace} (h : DataW.Trod enc Tryz.prog w 0 (fun _ => true) true 29 v d ps) (hb : Below w.heap.size w w') (hlt : ∀ x ∈ ps, x.block < w.heap.size) :
    DataW.Trod enc Tryz.prog w' 0 (fun b => decide (b < w.heap.size)) true 29 v d ps :=
  Below.trod laidOut recForm rowForm h hb hlt
end
end Go.Proofs.YtedabholcldgbaaGreatDoor
