/-
  NARROWER THAN 'FOR EVERY INPUT', by the rows' own cells (each row's printed sentence says how): ShapeKids: loops · ShapeParts: loops · ShapeInner: loops.
  DERIVED. THE GIVEN ROWS OF THIS SEAT. 3 by the template 'for every input the law returns true; each argument reads behind the call as it read before'; 0 by the template 'total and deterministic' (their statements: YtmlfiopbdlaaaaaGreatTotals.lean).
  GIVEN WITH THE SEED: the statements are not yours to turn. If you find one false, say at which input.
  Laid BY PROGRAM, IN A SANDBOX (cutbox-rows.mjs): the forced cells as the released guide's own fill.sh prints them over the translation a648f40f657874d3… (all of the seat's roots in one cut). By AI agents, Wed Nov 11 2026. No macro, syntax, notation, axiom, sorry.
-/
import Derived.Test.YtmlfiopbdlaaaaaGreatChecked
import GoSem.Claim
import GoSem.ClaimJoined
import GoSem.ClaimMapViews
import Derived.JoinedTies
import Derived.KernelRfl
namespace Go.Proofs.YtmlfiopbdlaaaaaGreat
/- THE CELL 'sum', in the pinned program and in every row, IS THE sha256 OF THE DUMP (.gsa) THAT YtmlfiopbdlaaaaaGreatProg.lean LOADS. Nothing in Lean hashes anything: it is a label: what it is worth is what the hold of that sum in a sandbox is worth. -/
noncomputable def Tryz.pinned : Pinned := { name := "ytmlfiopbdlaaaaagreat", sum := "a648f40f657874d34d199fde4a24b773ebd75793b2f461b3818b1621599c5969", checked := Tryz.checked }
namespace Rows
def none {H : Type} : Left H := { results := [], args := [] }

/-- 'plinthlaw04.ShapeKids': WHATEVER THE INPUT: true; the input reads as it did. -/
def shapeKidsSpec : ChangeSpec := { name := "shapeKids", fn := fun _ => fun
  | [d] => { results := [.lit (.bool true)], args := [d] }
  | _ => none }
def shapeKidsRow : OpenClaim := { program := "ytmlfiopbdlaaaaagreat", sum := "a648f40f657874d34d199fde4a24b773ebd75793b2f461b3818b1621599c5969", func := "plinth/plinthlaw04.ShapeKids", spec := "shapeKids", inPlace := ["internal/bytealg.IndexByteString", "internal/bytealg.IndexString"], unfollowed := true, recurses := true, named := ["internal/bytealg.MaxLen"], loops := true, apart := false }
def ShapeKidsSaid : Prop := shapeKidsRow.holds Tryz.pinned (OpenSpec.ofChange shapeKidsSpec)

/-- ITS FALSE NEIGHBOUR: 'it returns false'. Refute it at one input. -/
def shapeKidsWrong : ChangeSpec := { name := "shapeKids", fn := fun _ => fun
  | [d] => { results := [.lit (.bool false)], args := [d] }
  | _ => none }
def ShapeKidsWrongFalsely : Prop := shapeKidsRow.holds Tryz.pinned (OpenSpec.ofChange shapeKidsWrong)

/-- 'plinthlaw04.ShapeParts': WHATEVER THE INPUT: true; the input reads as it did. -/
def shapePartsSpec : ChangeSpec := { name := "shapeParts", fn := fun _ => fun
  | [d1, d2] => { results := [.lit (.bool true)], args := [d1, d2] }
  | _ => none }
def shapePartsRow : OpenClaim := { program := "ytmlfiopbdlaaaaagreat", sum := "a648f40f657874d34d199fde4a24b773ebd75793b2f461b3818b1621599c5969", func := "plinth/plinthlaw04.ShapeParts", spec := "shapeParts", inPlace := ["internal/bytealg.IndexByteString", "internal/bytealg.IndexString"], unfollowed := true, recurses := true, named := ["internal/bytealg.MaxLen"], loops := true, apart := false }
def ShapePartsSaid : Prop := shapePartsRow.holds Tryz.pinned (OpenSpec.ofChange shapePartsSpec)

/-- ITS FALSE NEIGHBOUR: 'it returns false'. Refute it at one input. -/
def shapePartsWrong : ChangeSpec := { name := "shapeParts", fn := fun _ => fun
  | [d1, d2] => { results := [.lit (.bool false)], args := [d1, d2] }
  | _ => none }
def ShapePartsWrongFalsely : Prop := shapePartsRow.holds Tryz.pinned (OpenSpec.ofChange shapePartsWrong)

/-- 'plinthlaw04.ShapeInner': WHATEVER THE INPUT: true; the input reads as it did. -/
def shapeInnerSpec : ChangeSpec := { name := "shapeInner", fn := fun _ => fun
  | [d] => { results := [.lit (.bool true)], args := [d] }
  | _ => none }
def shapeInnerRow : OpenClaim := { program := "ytmlfiopbdlaaaaagreat", sum := "a648f40f657874d34d199fde4a24b773ebd75793b2f461b3818b1621599c5969", func := "plinth/plinthlaw04.ShapeInner", spec := "shapeInner", inPlace := ["internal/bytealg.IndexByteString", "internal/bytealg.IndexString"], unfollowed := true, recurses := true, named := ["internal/bytealg.MaxLen"], loops := true, apart := false }
def ShapeInnerSaid : Prop := shapeInnerRow.holds Tryz.pinned (OpenSpec.ofChange shapeInnerSpec)

/-- ITS FALSE NEIGHBOUR: 'it returns false'. Refute it at one input. -/
def shapeInnerWrong : ChangeSpec := { name := "shapeInner", fn := fun _ => fun
  | [d] => { results := [.lit (.bool false)], args := [d] }
  | _ => none }
def ShapeInnerWrongFalsely : Prop := shapeInnerRow.holds Tryz.pinned (OpenSpec.ofChange shapeInnerWrong)

/- THE SECOND FORM. 'bulk': how many values and letters a reading holds, each counted each time it is reached (what is shared counts as often as it is met; a slice's spare places count too). A statement '..UptoSaid' is the law's where the arguments, and the package variables that the reading takes, are together of bulk at most 1048576: NARROWER than '..Said'. Prove '..Said' where nothing that the law and all that it calls make is longer than what came in: it says more and counts as full. Else prove '..UptoSaid'. A law counts once. -/
mutual
def uptoBulk {H : Type} : DataW H → Nat
  | .lit (.string bytes) => bytes.length + 1
  | .lit _ => 1
  | .nil => 1
  | .ptr d => uptoBulk d + 1
  | .slice elems spare => uptoBulkAll elems + uptoBulkAll spare + 1
  | .agg parts => uptoBulkAll parts + 1
  | .iface _ d => uptoBulk d + 1
  | .map entries => uptoBulkEntries entries + 1
  | .held _ => 1
def uptoBulkAll {H : Type} : List (DataW H) → Nat
  | [] => 0
  | d :: r => uptoBulk d + uptoBulkAll r
def uptoBulkEntries {H : Type} : List (Lit × DataW H) → Nat
  | [] => 0
  | x :: r => uptoBulkEntry x + uptoBulkEntries r
def uptoBulkEntry {H : Type} : Lit × DataW H → Nat
  | (.string bytes, d) => bytes.length + uptoBulk d + 1
  | (_, d) => uptoBulk d + 1
 end
def uptoSmall : (H : Type) → List (DataW H) → Bool := fun _ ds => decide (uptoBulkAll ds ≤ 1048576)
def OpenSpec.upto (s : _root_.Go.ChangeSpec) : _root_.Go.OpenSpec := { _root_.Go.OpenSpec.ofChange s with cond := some uptoSmall }

/-- 'plinthlaw04.ShapeKids', WHERE WHAT IT READS IS OF BULK AT MOST 1048576: true; the input reads as it did. -/
def shapeKidsUptoRow : OpenClaim := { program := "ytmlfiopbdlaaaaagreat", sum := "a648f40f657874d34d199fde4a24b773ebd75793b2f461b3818b1621599c5969", func := "plinth/plinthlaw04.ShapeKids", spec := "shapeKids", inPlace := ["internal/bytealg.IndexByteString", "internal/bytealg.IndexString"], unfollowed := true, recurses := true, named := ["internal/bytealg.MaxLen"], loops := true, apart := false, narrowed := true }
def ShapeKidsUptoSaid : Prop := shapeKidsUptoRow.holds Tryz.pinned (OpenSpec.upto shapeKidsSpec)

/-- 'plinthlaw04.ShapeParts', WHERE WHAT IT READS IS OF BULK AT MOST 1048576: true; the input reads as it did. -/
def shapePartsUptoRow : OpenClaim := { program := "ytmlfiopbdlaaaaagreat", sum := "a648f40f657874d34d199fde4a24b773ebd75793b2f461b3818b1621599c5969", func := "plinth/plinthlaw04.ShapeParts", spec := "shapeParts", inPlace := ["internal/bytealg.IndexByteString", "internal/bytealg.IndexString"], unfollowed := true, recurses := true, named := ["internal/bytealg.MaxLen"], loops := true, apart := false, narrowed := true }
def ShapePartsUptoSaid : Prop := shapePartsUptoRow.holds Tryz.pinned (OpenSpec.upto shapePartsSpec)

/-- 'plinthlaw04.ShapeInner', WHERE WHAT IT READS IS OF BULK AT MOST 1048576: true; the input reads as it did. -/
def shapeInnerUptoRow : OpenClaim := { program := "ytmlfiopbdlaaaaagreat", sum := "a648f40f657874d34d199fde4a24b773ebd75793b2f461b3818b1621599c5969", func := "plinth/plinthlaw04.ShapeInner", spec := "shapeInner", inPlace := ["internal/bytealg.IndexByteString", "internal/bytealg.IndexString"], unfollowed := true, recurses := true, named := ["internal/bytealg.MaxLen"], loops := true, apart := false, narrowed := true }
def ShapeInnerUptoSaid : Prop := shapeInnerUptoRow.holds Tryz.pinned (OpenSpec.upto shapeInnerSpec)

end Rows
end Go.Proofs.YtmlfiopbdlaaaaaGreat
