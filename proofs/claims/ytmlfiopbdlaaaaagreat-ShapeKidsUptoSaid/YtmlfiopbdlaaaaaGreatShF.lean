/- What an expression's row is: plain. -/
import Derived.Test.YtmlfiopbdlaaaaaGreatShC
namespace Go.Proofs.YtmlfiopbdlaaaaaGreat
open Go.RowKit Go.Deep
def trigW : ByteArray := ⟨#[116, 114, 105, 103, 103, 101, 114]⟩
/-- Is a form's head one of some? -/
def hdIn (f : Fm) (l : List (List UInt8)) : Bool := l.any fun x => (headF f).toList == x
theorem hdIn_yes {f : Fm} {x : List UInt8} {l : List (List UInt8)} (h : hdIn f (x :: l) = true) : (headF f).toList = x ∨ hdIn f l = true := by
  unfold hdIn at h ⊢
  rw [List.any_cons, Bool.or_eq_true] at h
  exact h.imp (fun h => by simpa using h) id
theorem hdIn_no {f : Fm} {x : List UInt8} {l : List (List UInt8)} (h : hdIn f (x :: l) = false) : ((headF f).toList == x) = false ∧ hdIn f l = false := by
  unfold hdIn at h ⊢
  rw [List.any_cons, Bool.or_eq_false_iff] at h
  exact h
theorem hdIn_nil {f : Fm} (h : hdIn f [] = true) : False := by simp [hdIn] at h
def bindR (E : Fm → Bool) (f : Fm) : Option RS :=
  if hdIn f [[108, 101, 116], [101, 118, 101, 114, 121], [97, 110, 121]] then some ⟨[bindP [exprP E], exprP E], none, []⟩ else
  if hdIn f [[97, 108, 108], [115, 111, 109, 101]] then some ⟨[bindP [exprP E, exprP E], exprP E], none, []⟩ else
  if hdIn f [[112, 105, 99, 107]] then some ⟨[bindP [exprP E, exprP E], exprP E, exprP E], none, []⟩ else
  if hdIn f [[109, 97, 116, 99, 104]] then some ⟨[exprP E, listP ⟨[nameP, namesP, exprP E], none, []⟩ (fun _ => true)], some (listP ⟨[nameP, namesP, exprP E], none, []⟩ (fun _ => true)), []⟩ else
  if hdIn f [[102, 110]] then some ⟨[paramsP, exprP E], none, []⟩ else
  if hdIn f [[102, 111, 114, 97, 108, 108], [101, 120, 105, 115, 116, 115]] then some ⟨[(listP ⟨[typedP], some typedP, []⟩ differB)], some (behindP trigW ⟨[exprP E], some (exprP E), []⟩), [exprP E]⟩ else
  none
def exprR (E : Fm → Bool) (f : Fm) : Option RS :=
  if hdIn f [[110, 101, 103], [110, 111, 116], [98, 110, 117, 109], [108, 101, 110], [99, 97, 114, 100], [107, 101, 121, 115], [102, 114, 101, 115, 104]] then some ⟨[exprP E], none, []⟩ else
  if hdIn f [[43], [45], [42], [100, 105, 118], [109, 111, 100], [60], [60, 61], [61], [61, 62], [105, 102, 102], [98, 97, 110, 100], [98, 111, 114], [98, 120, 111, 114], [98, 97, 100, 100], [97, 116], [99, 97, 116], [105, 110], [106, 111, 105, 110], [109, 101, 101, 116], [108, 101, 115, 115], [99, 111, 117, 110, 116], [108, 111, 111, 107]] then some ⟨[exprP E, exprP E], none, []⟩ else
  if hdIn f [[105, 102], [99, 117, 116], [112, 117, 116]] then some ⟨[exprP E, exprP E, exprP E], none, []⟩ else
  if hdIn f [[97, 110, 100], [111, 114], [115, 101, 113], [115, 101, 116], [98, 97, 103]] then some ⟨[], some (exprP E), []⟩ else
  if hdIn f [[109, 97, 112]] then some ⟨[], some (listP ⟨[exprP E, exprP E], none, []⟩ (fun _ => true)), []⟩ else
  if hdIn f [[98, 105, 116, 115]] then some ⟨[numP 1 16, numP 0 1152921504606846976], none, []⟩ else
  if hdIn f [[101, 109, 112, 116, 121]] then some ⟨[typeP], none, []⟩ else
  if hdIn f [[105, 109, 97, 112]] then some ⟨[exprP E, typeP], none, []⟩ else
  if hdIn f [[97, 112, 112]] then some ⟨[exprP E], some (exprP E), []⟩ else
  if hdIn f [[105, 115], [103, 101, 116]] then some ⟨[nameP, exprP E], none, []⟩ else
  if hdIn f [[99, 97, 108, 108], [109, 97, 107, 101]] then some (callR E f) else
  if hdIn f [[112, 114, 101, 102, 105, 120]] then some ⟨[nameP, exprP E], some (exprP E), []⟩ else
  if hdIn f [[102, 117, 101, 108]] then some ⟨[numP 0 9, nameP, exprP E], none, []⟩ else
  if hdIn f [[111, 108, 100]] then some (if 2 < f.ks.length then ⟨[nameP, exprP E], none, []⟩ else ⟨[exprP E], none, []⟩) else
  bindR E f
/-- Is a form an expression? (By fuel.) -/
def okE : Nat → Fm → Bool
  | 0, _ => false
  | n + 1, f => if f.kd = 0 then true else if f.kd = 1 then exprW f.tx else if f.kd = 3 then (match exprR (okE n) f with | some R => R.ok (f.ks.drop 1) | none => false) else false
/-- Is a form an expression? -/
noncomputable def okX (f : Fm) : Bool := okE (SizeOf.sizeOf f + 1) f
end Go.Proofs.YtmlfiopbdlaaaaaGreat
