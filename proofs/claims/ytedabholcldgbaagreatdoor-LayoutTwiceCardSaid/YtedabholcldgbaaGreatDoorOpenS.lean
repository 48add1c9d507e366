/- Arguments that read as a text, as an int. -/
import Derived.Test.YtedabholcldgbaaGreatDoorBulk
import Derived.ChangeMaps5
namespace Go.Proofs.YtedabholcldgbaaGreatDoor
open Go.RowKit Go.Deep Go.ChangeShapes Go.WideShapes Go.ChangeMaps

section
variable {H : Type} {enc : TypeId × Value → H} {w : World} {base : Nat} {sp : Nat → Bool} {hd : Bool}
theorem recStr : Tryz.prog.readableRec 9 = true := by kernel_rfl
theorem rowStr : 9 < Tryz.prog.types.size := of_decide_eq_true (by kernel_rfl)
set_option maxRecDepth 100000 in
/-- An argument that reads as a text. -/
theorem open_str {b0 : Nat} {r : Reach} {v : Value} {d : DataW H} {ps : List MemPlace} (hv : Value.okWide Tryz.prog w r b0 9 v) (h : DataW.Trod enc Tryz.prog w base sp hd 9 v d ps) : ∃ s : ByteArray, v = .string s ∧ s.size ≤ maxLen ∧ s.size + 1 ≤ Rows.uptoBulk d := by
  obtain ⟨s, rfl, rfl, _, hs⟩ := open_string Tryz.underlying9 hv h
  exact ⟨s, rfl, hs, by simp [Rows.uptoBulk]⟩
theorem again_str {w' : World} {v : Value} {d : DataW H} {ps : List MemPlace} (h : DataW.Trod enc Tryz.prog w 0 (fun _ => true) true 9 v d ps) (hb : Below w.heap.size w w') (hlt : ∀ x ∈ ps, x.block < w.heap.size) :
    DataW.Trod enc Tryz.prog w' 0 (fun b => decide (b < w.heap.size)) true 9 v d ps :=
  Below.trod laidOut recStr rowStr h hb hlt
theorem recNum : Tryz.prog.readableRec 3 = true := by kernel_rfl
theorem rowNum : 3 < Tryz.prog.types.size := of_decide_eq_true (by kernel_rfl)
set_option maxRecDepth 100000 in
/-- An argument that reads as an int. -/
theorem open_num {b0 : Nat} {r : Reach} {v : Value} {d : DataW H} {ps : List MemPlace} (hv : Value.okWide Tryz.prog w r b0 3 v) (h : DataW.Trod enc Tryz.prog w base sp hd 3 v d ps) : ∃ n : Int, v = .int .i64 n ∧ I64 n := by
  obtain ⟨n, rfl⟩ := okWide_int Tryz.underlying3 hv
  obtain ⟨fuel, hf⟩ := h
  obtain ⟨n', e, _, hw⟩ := DataW.trod_int Tryz.underlying3 hf
  simp [Value.cells] at e
  subst e
  exact ⟨n, rfl, i64_of_wf hw⟩
theorem again_num {w' : World} {v : Value} {d : DataW H} {ps : List MemPlace} (h : DataW.Trod enc Tryz.prog w 0 (fun _ => true) true 3 v d ps) (hb : Below w.heap.size w w') (hlt : ∀ x ∈ ps, x.block < w.heap.size) :
    DataW.Trod enc Tryz.prog w' 0 (fun b => decide (b < w.heap.size)) true 3 v d ps :=
  Below.trod laidOut recNum rowNum h hb hlt
end
end Go.Proofs.YtedabholcldgbaaGreatDoor
