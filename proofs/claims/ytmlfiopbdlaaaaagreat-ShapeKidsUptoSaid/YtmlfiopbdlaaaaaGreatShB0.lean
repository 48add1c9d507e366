/- What the rows of forall and exists want. -/
import Derived.Test.YtmlfiopbdlaaaaaGreatShF
import Derived.Test.YtmlfiopbdlaaaaaGreatShR6
namespace Go.Proofs.YtmlfiopbdlaaaaaGreat
open Go.RowKit Go.Deep
theorem preD_typed : ∀ ks : List Fm, (RS.ok ⟨[typedP], some typedP, []⟩ ks) = true → ∀ f ∈ ks, PreD f := by
  intro ks h f hf
  obtain ⟨i, hi, rfl⟩ := List.getElem_of_mem hf
  refine fun _ => typed_ks (ok_inside h i typedP hi ?_)
  by_cases h0 : i = 0
  · subst h0; simp [RS.at]
  · simp [RS.at, hi, h0]
end Go.Proofs.YtmlfiopbdlaaaaaGreat
