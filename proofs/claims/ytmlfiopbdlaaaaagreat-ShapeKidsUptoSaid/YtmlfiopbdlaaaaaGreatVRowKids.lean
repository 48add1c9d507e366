/- Proved here: for every form f whose Kids lie in whatever memory (shared or not), the call plinthlaw04.ShapeKids(f) returns true, and the argument reads afterwards as it read before. Conditions: those of the given second row alone: the argument is of bulk at most 1048576 (each part counted each time it is reached), and reads as finite data. No condition of the prover's own. -/
import Derived.Test.YtmlfiopbdlaaaaaGreatJ1
import Derived.Test.YtmlfiopbdlaaaaaGreatVShN
import Derived.Test.YtmlfiopbdlaaaaaGreatChecked
namespace Go.Proofs.YtmlfiopbdlaaaaaGreat.shapeKids
open Go.ChangeShapes Go.WideShapes Go.ChangeAt Go.RowKit
set_option maxRecDepth 100000 in
theorem contract (H : Type) (enc : TypeId × Value → H) (W : World) (base : Nat) (args : Array Value) (ds gs : List (DataW H)) (before : List MemPlace)
    (hval : ∀ (j : Nat) t v, Tryz.f3.params[j]? = some t → args[j]? = some v → Value.okWide Tryz.prog W .any base t v)
    (hW : DataW.Whole enc Tryz.prog Tryz.f3.params.toList Rows.shapeKidsSpec.vars false W args.toList ds gs before) (hb : Rows.uptoSmall H (ds ++ gs) = true) (hS : W.ShapedOpen Tryz.prog) :
    Calls Tryz.prog 3 args W fun e W' => ∃ v, e = .returned v ∧ Rows.shapeKidsSpec.post enc Tryz.prog Tryz.f3 false true false false W args v W' := by
  have hW' := hW
  obtain ⟨p, q, hA0, hV, rfl, hfz, hnd⟩ := hW
  have hA : DataW.TrodAll enc Tryz.prog W 0 (fun _ => true) true Tryz.f3.params.toList args.toList ds p := hA0
  rw [Tryz.params3] at hA
  obtain ⟨v0, vs0, d0, ds0, p0, q0, hargs, rfl, rfl, h0, r0⟩ := trodAll_cons hA
  obtain ⟨rfl, rfl, rfl⟩ := trodAll_nil r0
  obtain rfl : args = #[v0] := by cases args; simp_all
  obtain ⟨rfl, rfl⟩ := trodVars_none hV
  have hbulk := upto_small hb
  obtain ⟨a, rfl, ha, hbk⟩ := open_argB h0
  have hsz := szF_bk a.form
  simp only [List.append_nil, Rows.uptoBulkAll] at hbulk
  clear hA0
  have hlt : ∀ x ∈ p0 ++ [] ++ [], x.block < W.heap.size := fun x hx => by simpa using hW'.lt x hx
  refine (shapeKids_any a W ha (max_of_shaped hS) (by omega)).mono fun e W' ⟨he, hB⟩ => ?_
  subst he
  refine ⟨_, rfl, _, _, _, [], p0 ++ [], [], hW', ?_, ?_, ?_, hB.frame _, fun h => by cases h⟩
  · exact trodAll_mk1 (shut_bool Tryz.underlying4 _)
  · exact trodAll_cons_mk (again_arg h0 hB fun x hx => hlt x (by simp [hx])) trodAll_mk0
  · rfl
abbrev zeroForm : Value := .agg #[.int .i64 0, .int .i64 0, .string ⟨#[]⟩, .slice none 0 0]
theorem reads (os : Os) {H : Type} (enc : TypeId × Value → H) : ∃ ds places, DataW.whole enc Tryz.prog ((World.laidAll Tryz.prog os []).forCall (fun _ _ => 0) ⟨#[], #[zeroForm], []⟩).memory Tryz.f3.params.toList (Rows.OpenSpec.upto Rows.shapeKidsSpec).vars false #[zeroForm].toList 8 = some (ds, [], places) ∧ Rows.uptoSmall H (ds ++ []) = true :=
  ⟨[.agg [.lit (.int .i64 0), .lit (.int .i64 0), .lit (.string []), .nil]], [], by kernel_rfl, by kernel_rfl⟩
set_option maxRecDepth 100000 in
theorem lifted (os : Os) (started : os.Started) (H : Type) (enc : TypeId × Value → H) (F : Stop.Interp) :
    ReturnsInHanded {} Tryz.checked os 3 .any ((Rows.OpenSpec.upto Rows.shapeKidsSpec).preRow enc Tryz.prog Tryz.f3 Rows.shapeKidsUptoRow.domain false Rows.shapeKidsUptoRow.laid) (((Rows.OpenSpec.upto Rows.shapeKidsSpec).at F).post enc Tryz.prog Tryz.f3 false true false false) := by
  obtain ⟨ds, places, hx, hsm⟩ := reads os enc
  refine returnsInHanded_of_row (C := Tryz.checked) (s := Rows.OpenSpec.upto Rows.shapeKidsSpec) own started (by kernel_rfl) Tryz.func3
    (witnessN (enc := enc) (C := Tryz.checked) false (World.laidAll Tryz.prog os []) #[zeroForm] (World.laidAll_os _ _ _) (all_shapedN os _) (by kernel_rfl)
      (OpenSpec.preRow_of_cond 8 hx (by kernel_rfl) (fun k hk => by cases hk; exact hsm) (by kernel_rfl) (all_metN os _))) ?_
  intro W base args ds gs before hval hW _ hk _ _ hS _
  exact contract H enc W base args ds gs before hval hW (hk _ rfl) hS
theorem said : Rows.ShapeKidsUptoSaid :=
  OpenClaim.holds_of_cond 3 Tryz.f3 rfl rfl rfl rfl rfl rfl rfl ⟨rfl, rfl, rfl, rfl, rfl⟩ rfl rfl rfl rfl rfl (by kernel_rfl) Tryz.func3 (by kernel_rfl)
    (of_decide_eq_true (by kernel_rfl)) (by unfold Func.isWrapper; first | (rw [if_pos (by decide +kernel)]; kernel_rfl) | (rw [if_neg (by decide +kernel)]; exact ⟨rfl, rfl⟩))
    (fun os started H enc _ F => by rw [OpenClaim.pre_eq_preRow]; exact lifted os started H enc F)
end Go.Proofs.YtmlfiopbdlaaaaaGreat.shapeKids
