/- The rows of expressions, by classes of heads, as the document has them: plain. (Made by genrep.py.) -/
import Derived.Test.YtmlfiopbdlaaaaaGreatJ6
namespace Go.Proofs.YtmlfiopbdlaaaaaGreat
open Go.RowKit Go.Deep
theorem hdIn_disj {f : Fm} {A B : List (List UInt8)} (h : hdIn f A = true) (d : (A.all fun x => !B.contains x) = true) : hdIn f B = false := by
  cases hb : hdIn f B with
  | false => rfl
  | true =>
    unfold hdIn at h hb
    rw [any_mem, decide_eq_true_iff] at h hb
    have := List.all_eq_true.1 d _ h
    simp [hb] at this
abbrev cneg : List (List UInt8) := [[110, 101, 103], [110, 111, 116], [98, 110, 117, 109], [108, 101, 110], [99, 97, 114, 100], [107, 101, 121, 115], [102, 114, 101, 115, 104]]
abbrev ctwo : List (List UInt8) := [[43], [45], [42], [100, 105, 118], [109, 111, 100], [60], [60, 61], [61], [61, 62], [105, 102, 102], [98, 97, 110, 100], [98, 111, 114], [98, 120, 111, 114], [98, 97, 100, 100], [97, 116], [99, 97, 116], [105, 110], [106, 111, 105, 110], [109, 101, 101, 116], [108, 101, 115, 115], [99, 111, 117, 110, 116], [108, 111, 111, 107]]
abbrev cthree : List (List UInt8) := [[105, 102], [99, 117, 116], [112, 117, 116]]
abbrev cany : List (List UInt8) := [[97, 110, 100], [111, 114], [115, 101, 113], [115, 101, 116], [98, 97, 103]]
abbrev cmap : List (List UInt8) := [[109, 97, 112]]
abbrev cbits : List (List UInt8) := [[98, 105, 116, 115]]
abbrev cempty : List (List UInt8) := [[101, 109, 112, 116, 121]]
abbrev cimap : List (List UInt8) := [[105, 109, 97, 112]]
abbrev capp : List (List UInt8) := [[97, 112, 112]]
abbrev cisget : List (List UInt8) := [[105, 115], [103, 101, 116]]
abbrev ccall : List (List UInt8) := [[99, 97, 108, 108], [109, 97, 107, 101]]
abbrev cprefix : List (List UInt8) := [[112, 114, 101, 102, 105, 120]]
abbrev cfuel : List (List UInt8) := [[102, 117, 101, 108]]
abbrev cold : List (List UInt8) := [[111, 108, 100]]
abbrev clet : List (List UInt8) := [[108, 101, 116], [101, 118, 101, 114, 121], [97, 110, 121]]
abbrev call : List (List UInt8) := [[97, 108, 108], [115, 111, 109, 101]]
abbrev cpick : List (List UInt8) := [[112, 105, 99, 107]]
abbrev cmatch : List (List UInt8) := [[109, 97, 116, 99, 104]]
abbrev cfn : List (List UInt8) := [[102, 110]]
abbrev cquant : List (List UInt8) := [[102, 111, 114, 97, 108, 108], [101, 120, 105, 115, 116, 115]]
theorem rowc_neg {E : Fm → Bool} {f : Fm} (h : hdIn f cneg = true) : exprR E f = some ⟨[exprP E], none, []⟩ := by
  unfold exprR
  rw [if_pos h]
theorem rowc_two {E : Fm → Bool} {f : Fm} (h : hdIn f ctwo = true) : exprR E f = some ⟨[exprP E, exprP E], none, []⟩ := by
  unfold exprR
  rw [if_neg (by rw [hdIn_disj h (B := cneg) (by kernel_rfl)]; simp), if_pos h]
theorem rowc_three {E : Fm → Bool} {f : Fm} (h : hdIn f cthree = true) : exprR E f = some ⟨[exprP E, exprP E, exprP E], none, []⟩ := by
  unfold exprR
  rw [if_neg (by rw [hdIn_disj h (B := cneg) (by kernel_rfl)]; simp), if_neg (by rw [hdIn_disj h (B := ctwo) (by kernel_rfl)]; simp), if_pos h]
theorem rowc_any {E : Fm → Bool} {f : Fm} (h : hdIn f cany = true) : exprR E f = some ⟨[], some (exprP E), []⟩ := by
  unfold exprR
  rw [if_neg (by rw [hdIn_disj h (B := cneg) (by kernel_rfl)]; simp), if_neg (by rw [hdIn_disj h (B := ctwo) (by kernel_rfl)]; simp), if_neg (by rw [hdIn_disj h (B := cthree) (by kernel_rfl)]; simp), if_pos h]
theorem rowc_map {E : Fm → Bool} {f : Fm} (h : hdIn f cmap = true) : exprR E f = some ⟨[], some (listP ⟨[exprP E, exprP E], none, []⟩ (fun _ => true)), []⟩ := by
  unfold exprR
  rw [if_neg (by rw [hdIn_disj h (B := cneg) (by kernel_rfl)]; simp), if_neg (by rw [hdIn_disj h (B := ctwo) (by kernel_rfl)]; simp), if_neg (by rw [hdIn_disj h (B := cthree) (by kernel_rfl)]; simp), if_neg (by rw [hdIn_disj h (B := cany) (by kernel_rfl)]; simp), if_pos h]
theorem rowc_bits {E : Fm → Bool} {f : Fm} (h : hdIn f cbits = true) : exprR E f = some ⟨[numP 1 16, numP 0 1152921504606846976], none, []⟩ := by
  unfold exprR
  rw [if_neg (by rw [hdIn_disj h (B := cneg) (by kernel_rfl)]; simp), if_neg (by rw [hdIn_disj h (B := ctwo) (by kernel_rfl)]; simp), if_neg (by rw [hdIn_disj h (B := cthree) (by kernel_rfl)]; simp), if_neg (by rw [hdIn_disj h (B := cany) (by kernel_rfl)]; simp), if_neg (by rw [hdIn_disj h (B := cmap) (by kernel_rfl)]; simp), if_pos h]
theorem rowc_empty {E : Fm → Bool} {f : Fm} (h : hdIn f cempty = true) : exprR E f = some ⟨[typeP], none, []⟩ := by
  unfold exprR
  rw [if_neg (by rw [hdIn_disj h (B := cneg) (by kernel_rfl)]; simp), if_neg (by rw [hdIn_disj h (B := ctwo) (by kernel_rfl)]; simp), if_neg (by rw [hdIn_disj h (B := cthree) (by kernel_rfl)]; simp), if_neg (by rw [hdIn_disj h (B := cany) (by kernel_rfl)]; simp), if_neg (by rw [hdIn_disj h (B := cmap) (by kernel_rfl)]; simp), if_neg (by rw [hdIn_disj h (B := cbits) (by kernel_rfl)]; simp), if_pos h]
theorem rowc_imap {E : Fm → Bool} {f : Fm} (h : hdIn f cimap = true) : exprR E f = some ⟨[exprP E, typeP], none, []⟩ := by
  unfold exprR
  rw [if_neg (by rw [hdIn_disj h (B := cneg) (by kernel_rfl)]; simp), if_neg (by rw [hdIn_disj h (B := ctwo) (by kernel_rfl)]; simp), if_neg (by rw [hdIn_disj h (B := cthree) (by kernel_rfl)]; simp), if_neg (by rw [hdIn_disj h (B := cany) (by kernel_rfl)]; simp), if_neg (by rw [hdIn_disj h (B := cmap) (by kernel_rfl)]; simp), if_neg (by rw [hdIn_disj h (B := cbits) (by kernel_rfl)]; simp), if_neg (by rw [hdIn_disj h (B := cempty) (by kernel_rfl)]; simp), if_pos h]
theorem rowc_app {E : Fm → Bool} {f : Fm} (h : hdIn f capp = true) : exprR E f = some ⟨[exprP E], some (exprP E), []⟩ := by
  unfold exprR
  rw [if_neg (by rw [hdIn_disj h (B := cneg) (by kernel_rfl)]; simp), if_neg (by rw [hdIn_disj h (B := ctwo) (by kernel_rfl)]; simp), if_neg (by rw [hdIn_disj h (B := cthree) (by kernel_rfl)]; simp), if_neg (by rw [hdIn_disj h (B := cany) (by kernel_rfl)]; simp), if_neg (by rw [hdIn_disj h (B := cmap) (by kernel_rfl)]; simp), if_neg (by rw [hdIn_disj h (B := cbits) (by kernel_rfl)]; simp), if_neg (by rw [hdIn_disj h (B := cempty) (by kernel_rfl)]; simp), if_neg (by rw [hdIn_disj h (B := cimap) (by kernel_rfl)]; simp), if_pos h]
theorem rowc_isget {E : Fm → Bool} {f : Fm} (h : hdIn f cisget = true) : exprR E f = some ⟨[nameP, exprP E], none, []⟩ := by
  unfold exprR
  rw [if_neg (by rw [hdIn_disj h (B := cneg) (by kernel_rfl)]; simp), if_neg (by rw [hdIn_disj h (B := ctwo) (by kernel_rfl)]; simp), if_neg (by rw [hdIn_disj h (B := cthree) (by kernel_rfl)]; simp), if_neg (by rw [hdIn_disj h (B := cany) (by kernel_rfl)]; simp), if_neg (by rw [hdIn_disj h (B := cmap) (by kernel_rfl)]; simp), if_neg (by rw [hdIn_disj h (B := cbits) (by kernel_rfl)]; simp), if_neg (by rw [hdIn_disj h (B := cempty) (by kernel_rfl)]; simp), if_neg (by rw [hdIn_disj h (B := cimap) (by kernel_rfl)]; simp), if_neg (by rw [hdIn_disj h (B := capp) (by kernel_rfl)]; simp), if_pos h]
theorem rowc_call {E : Fm → Bool} {f : Fm} (h : hdIn f ccall = true) : exprR E f = some (callR E f) := by
  unfold exprR
  rw [if_neg (by rw [hdIn_disj h (B := cneg) (by kernel_rfl)]; simp), if_neg (by rw [hdIn_disj h (B := ctwo) (by kernel_rfl)]; simp), if_neg (by rw [hdIn_disj h (B := cthree) (by kernel_rfl)]; simp), if_neg (by rw [hdIn_disj h (B := cany) (by kernel_rfl)]; simp), if_neg (by rw [hdIn_disj h (B := cmap) (by kernel_rfl)]; simp), if_neg (by rw [hdIn_disj h (B := cbits) (by kernel_rfl)]; simp), if_neg (by rw [hdIn_disj h (B := cempty) (by kernel_rfl)]; simp), if_neg (by rw [hdIn_disj h (B := cimap) (by kernel_rfl)]; simp), if_neg (by rw [hdIn_disj h (B := capp) (by kernel_rfl)]; simp), if_neg (by rw [hdIn_disj h (B := cisget) (by kernel_rfl)]; simp), if_pos h]
theorem rowc_prefix {E : Fm → Bool} {f : Fm} (h : hdIn f cprefix = true) : exprR E f = some ⟨[nameP, exprP E], some (exprP E), []⟩ := by
  unfold exprR
  rw [if_neg (by rw [hdIn_disj h (B := cneg) (by kernel_rfl)]; simp), if_neg (by rw [hdIn_disj h (B := ctwo) (by kernel_rfl)]; simp), if_neg (by rw [hdIn_disj h (B := cthree) (by kernel_rfl)]; simp), if_neg (by rw [hdIn_disj h (B := cany) (by kernel_rfl)]; simp), if_neg (by rw [hdIn_disj h (B := cmap) (by kernel_rfl)]; simp), if_neg (by rw [hdIn_disj h (B := cbits) (by kernel_rfl)]; simp), if_neg (by rw [hdIn_disj h (B := cempty) (by kernel_rfl)]; simp), if_neg (by rw [hdIn_disj h (B := cimap) (by kernel_rfl)]; simp), if_neg (by rw [hdIn_disj h (B := capp) (by kernel_rfl)]; simp), if_neg (by rw [hdIn_disj h (B := cisget) (by kernel_rfl)]; simp), if_neg (by rw [hdIn_disj h (B := ccall) (by kernel_rfl)]; simp), if_pos h]
theorem rowc_fuel {E : Fm → Bool} {f : Fm} (h : hdIn f cfuel = true) : exprR E f = some ⟨[numP 0 9, nameP, exprP E], none, []⟩ := by
  unfold exprR
  rw [if_neg (by rw [hdIn_disj h (B := cneg) (by kernel_rfl)]; simp), if_neg (by rw [hdIn_disj h (B := ctwo) (by kernel_rfl)]; simp), if_neg (by rw [hdIn_disj h (B := cthree) (by kernel_rfl)]; simp), if_neg (by rw [hdIn_disj h (B := cany) (by kernel_rfl)]; simp), if_neg (by rw [hdIn_disj h (B := cmap) (by kernel_rfl)]; simp), if_neg (by rw [hdIn_disj h (B := cbits) (by kernel_rfl)]; simp), if_neg (by rw [hdIn_disj h (B := cempty) (by kernel_rfl)]; simp), if_neg (by rw [hdIn_disj h (B := cimap) (by kernel_rfl)]; simp), if_neg (by rw [hdIn_disj h (B := capp) (by kernel_rfl)]; simp), if_neg (by rw [hdIn_disj h (B := cisget) (by kernel_rfl)]; simp), if_neg (by rw [hdIn_disj h (B := ccall) (by kernel_rfl)]; simp), if_neg (by rw [hdIn_disj h (B := cprefix) (by kernel_rfl)]; simp), if_pos h]
theorem rowc_old {E : Fm → Bool} {f : Fm} (h : hdIn f cold = true) : exprR E f = some (if 2 < f.ks.length then ⟨[nameP, exprP E], none, []⟩ else ⟨[exprP E], none, []⟩) := by
  unfold exprR
  rw [if_neg (by rw [hdIn_disj h (B := cneg) (by kernel_rfl)]; simp), if_neg (by rw [hdIn_disj h (B := ctwo) (by kernel_rfl)]; simp), if_neg (by rw [hdIn_disj h (B := cthree) (by kernel_rfl)]; simp), if_neg (by rw [hdIn_disj h (B := cany) (by kernel_rfl)]; simp), if_neg (by rw [hdIn_disj h (B := cmap) (by kernel_rfl)]; simp), if_neg (by rw [hdIn_disj h (B := cbits) (by kernel_rfl)]; simp), if_neg (by rw [hdIn_disj h (B := cempty) (by kernel_rfl)]; simp), if_neg (by rw [hdIn_disj h (B := cimap) (by kernel_rfl)]; simp), if_neg (by rw [hdIn_disj h (B := capp) (by kernel_rfl)]; simp), if_neg (by rw [hdIn_disj h (B := cisget) (by kernel_rfl)]; simp), if_neg (by rw [hdIn_disj h (B := ccall) (by kernel_rfl)]; simp), if_neg (by rw [hdIn_disj h (B := cprefix) (by kernel_rfl)]; simp), if_neg (by rw [hdIn_disj h (B := cfuel) (by kernel_rfl)]; simp), if_pos h]
theorem rowc_let {E : Fm → Bool} {f : Fm} (h : hdIn f clet = true) : exprR E f = some ⟨[bindP [exprP E], exprP E], none, []⟩ := by
  unfold exprR bindR
  rw [if_neg (by rw [hdIn_disj h (B := cneg) (by kernel_rfl)]; simp), if_neg (by rw [hdIn_disj h (B := ctwo) (by kernel_rfl)]; simp), if_neg (by rw [hdIn_disj h (B := cthree) (by kernel_rfl)]; simp), if_neg (by rw [hdIn_disj h (B := cany) (by kernel_rfl)]; simp), if_neg (by rw [hdIn_disj h (B := cmap) (by kernel_rfl)]; simp), if_neg (by rw [hdIn_disj h (B := cbits) (by kernel_rfl)]; simp), if_neg (by rw [hdIn_disj h (B := cempty) (by kernel_rfl)]; simp), if_neg (by rw [hdIn_disj h (B := cimap) (by kernel_rfl)]; simp), if_neg (by rw [hdIn_disj h (B := capp) (by kernel_rfl)]; simp), if_neg (by rw [hdIn_disj h (B := cisget) (by kernel_rfl)]; simp), if_neg (by rw [hdIn_disj h (B := ccall) (by kernel_rfl)]; simp), if_neg (by rw [hdIn_disj h (B := cprefix) (by kernel_rfl)]; simp), if_neg (by rw [hdIn_disj h (B := cfuel) (by kernel_rfl)]; simp), if_neg (by rw [hdIn_disj h (B := cold) (by kernel_rfl)]; simp), if_pos h]
theorem rowc_all {E : Fm → Bool} {f : Fm} (h : hdIn f call = true) : exprR E f = some ⟨[bindP [exprP E, exprP E], exprP E], none, []⟩ := by
  unfold exprR bindR
  rw [if_neg (by rw [hdIn_disj h (B := cneg) (by kernel_rfl)]; simp), if_neg (by rw [hdIn_disj h (B := ctwo) (by kernel_rfl)]; simp), if_neg (by rw [hdIn_disj h (B := cthree) (by kernel_rfl)]; simp), if_neg (by rw [hdIn_disj h (B := cany) (by kernel_rfl)]; simp), if_neg (by rw [hdIn_disj h (B := cmap) (by kernel_rfl)]; simp), if_neg (by rw [hdIn_disj h (B := cbits) (by kernel_rfl)]; simp), if_neg (by rw [hdIn_disj h (B := cempty) (by kernel_rfl)]; simp), if_neg (by rw [hdIn_disj h (B := cimap) (by kernel_rfl)]; simp), if_neg (by rw [hdIn_disj h (B := capp) (by kernel_rfl)]; simp), if_neg (by rw [hdIn_disj h (B := cisget) (by kernel_rfl)]; simp), if_neg (by rw [hdIn_disj h (B := ccall) (by kernel_rfl)]; simp), if_neg (by rw [hdIn_disj h (B := cprefix) (by kernel_rfl)]; simp), if_neg (by rw [hdIn_disj h (B := cfuel) (by kernel_rfl)]; simp), if_neg (by rw [hdIn_disj h (B := cold) (by kernel_rfl)]; simp), if_neg (by rw [hdIn_disj h (B := clet) (by kernel_rfl)]; simp), if_pos h]
theorem rowc_pick {E : Fm → Bool} {f : Fm} (h : hdIn f cpick = true) : exprR E f = some ⟨[bindP [exprP E, exprP E], exprP E, exprP E], none, []⟩ := by
  unfold exprR bindR
  rw [if_neg (by rw [hdIn_disj h (B := cneg) (by kernel_rfl)]; simp), if_neg (by rw [hdIn_disj h (B := ctwo) (by kernel_rfl)]; simp), if_neg (by rw [hdIn_disj h (B := cthree) (by kernel_rfl)]; simp), if_neg (by rw [hdIn_disj h (B := cany) (by kernel_rfl)]; simp), if_neg (by rw [hdIn_disj h (B := cmap) (by kernel_rfl)]; simp), if_neg (by rw [hdIn_disj h (B := cbits) (by kernel_rfl)]; simp), if_neg (by rw [hdIn_disj h (B := cempty) (by kernel_rfl)]; simp), if_neg (by rw [hdIn_disj h (B := cimap) (by kernel_rfl)]; simp), if_neg (by rw [hdIn_disj h (B := capp) (by kernel_rfl)]; simp), if_neg (by rw [hdIn_disj h (B := cisget) (by kernel_rfl)]; simp), if_neg (by rw [hdIn_disj h (B := ccall) (by kernel_rfl)]; simp), if_neg (by rw [hdIn_disj h (B := cprefix) (by kernel_rfl)]; simp), if_neg (by rw [hdIn_disj h (B := cfuel) (by kernel_rfl)]; simp), if_neg (by rw [hdIn_disj h (B := cold) (by kernel_rfl)]; simp), if_neg (by rw [hdIn_disj h (B := clet) (by kernel_rfl)]; simp), if_neg (by rw [hdIn_disj h (B := call) (by kernel_rfl)]; simp), if_pos h]
theorem rowc_match {E : Fm → Bool} {f : Fm} (h : hdIn f cmatch = true) : exprR E f = some ⟨[exprP E, listP ⟨[nameP, namesP, exprP E], none, []⟩ (fun _ => true)], some (listP ⟨[nameP, namesP, exprP E], none, []⟩ (fun _ => true)), []⟩ := by
  unfold exprR bindR
  rw [if_neg (by rw [hdIn_disj h (B := cneg) (by kernel_rfl)]; simp), if_neg (by rw [hdIn_disj h (B := ctwo) (by kernel_rfl)]; simp), if_neg (by rw [hdIn_disj h (B := cthree) (by kernel_rfl)]; simp), if_neg (by rw [hdIn_disj h (B := cany) (by kernel_rfl)]; simp), if_neg (by rw [hdIn_disj h (B := cmap) (by kernel_rfl)]; simp), if_neg (by rw [hdIn_disj h (B := cbits) (by kernel_rfl)]; simp), if_neg (by rw [hdIn_disj h (B := cempty) (by kernel_rfl)]; simp), if_neg (by rw [hdIn_disj h (B := cimap) (by kernel_rfl)]; simp), if_neg (by rw [hdIn_disj h (B := capp) (by kernel_rfl)]; simp), if_neg (by rw [hdIn_disj h (B := cisget) (by kernel_rfl)]; simp), if_neg (by rw [hdIn_disj h (B := ccall) (by kernel_rfl)]; simp), if_neg (by rw [hdIn_disj h (B := cprefix) (by kernel_rfl)]; simp), if_neg (by rw [hdIn_disj h (B := cfuel) (by kernel_rfl)]; simp), if_neg (by rw [hdIn_disj h (B := cold) (by kernel_rfl)]; simp), if_neg (by rw [hdIn_disj h (B := clet) (by kernel_rfl)]; simp), if_neg (by rw [hdIn_disj h (B := call) (by kernel_rfl)]; simp), if_neg (by rw [hdIn_disj h (B := cpick) (by kernel_rfl)]; simp), if_pos h]
theorem rowc_fn {E : Fm → Bool} {f : Fm} (h : hdIn f cfn = true) : exprR E f = some ⟨[paramsP, exprP E], none, []⟩ := by
  unfold exprR bindR
  rw [if_neg (by rw [hdIn_disj h (B := cneg) (by kernel_rfl)]; simp), if_neg (by rw [hdIn_disj h (B := ctwo) (by kernel_rfl)]; simp), if_neg (by rw [hdIn_disj h (B := cthree) (by kernel_rfl)]; simp), if_neg (by rw [hdIn_disj h (B := cany) (by kernel_rfl)]; simp), if_neg (by rw [hdIn_disj h (B := cmap) (by kernel_rfl)]; simp), if_neg (by rw [hdIn_disj h (B := cbits) (by kernel_rfl)]; simp), if_neg (by rw [hdIn_disj h (B := cempty) (by kernel_rfl)]; simp), if_neg (by rw [hdIn_disj h (B := cimap) (by kernel_rfl)]; simp), if_neg (by rw [hdIn_disj h (B := capp) (by kernel_rfl)]; simp), if_neg (by rw [hdIn_disj h (B := cisget) (by kernel_rfl)]; simp), if_neg (by rw [hdIn_disj h (B := ccall) (by kernel_rfl)]; simp), if_neg (by rw [hdIn_disj h (B := cprefix) (by kernel_rfl)]; simp), if_neg (by rw [hdIn_disj h (B := cfuel) (by kernel_rfl)]; simp), if_neg (by rw [hdIn_disj h (B := cold) (by kernel_rfl)]; simp), if_neg (by rw [hdIn_disj h (B := clet) (by kernel_rfl)]; simp), if_neg (by rw [hdIn_disj h (B := call) (by kernel_rfl)]; simp), if_neg (by rw [hdIn_disj h (B := cpick) (by kernel_rfl)]; simp), if_neg (by rw [hdIn_disj h (B := cmatch) (by kernel_rfl)]; simp), if_pos h]
theorem rowc_quant {E : Fm → Bool} {f : Fm} (h : hdIn f cquant = true) : exprR E f = some ⟨[(listP ⟨[typedP], some typedP, []⟩ differB)], some (behindP trigW ⟨[exprP E], some (exprP E), []⟩), [exprP E]⟩ := by
  unfold exprR bindR
  rw [if_neg (by rw [hdIn_disj h (B := cneg) (by kernel_rfl)]; simp), if_neg (by rw [hdIn_disj h (B := ctwo) (by kernel_rfl)]; simp), if_neg (by rw [hdIn_disj h (B := cthree) (by kernel_rfl)]; simp), if_neg (by rw [hdIn_disj h (B := cany) (by kernel_rfl)]; simp), if_neg (by rw [hdIn_disj h (B := cmap) (by kernel_rfl)]; simp), if_neg (by rw [hdIn_disj h (B := cbits) (by kernel_rfl)]; simp), if_neg (by rw [hdIn_disj h (B := cempty) (by kernel_rfl)]; simp), if_neg (by rw [hdIn_disj h (B := cimap) (by kernel_rfl)]; simp), if_neg (by rw [hdIn_disj h (B := capp) (by kernel_rfl)]; simp), if_neg (by rw [hdIn_disj h (B := cisget) (by kernel_rfl)]; simp), if_neg (by rw [hdIn_disj h (B := ccall) (by kernel_rfl)]; simp), if_neg (by rw [hdIn_disj h (B := cprefix) (by kernel_rfl)]; simp), if_neg (by rw [hdIn_disj h (B := cfuel) (by kernel_rfl)]; simp), if_neg (by rw [hdIn_disj h (B := cold) (by kernel_rfl)]; simp), if_neg (by rw [hdIn_disj h (B := clet) (by kernel_rfl)]; simp), if_neg (by rw [hdIn_disj h (B := call) (by kernel_rfl)]; simp), if_neg (by rw [hdIn_disj h (B := cpick) (by kernel_rfl)]; simp), if_neg (by rw [hdIn_disj h (B := cmatch) (by kernel_rfl)]; simp), if_neg (by rw [hdIn_disj h (B := cfn) (by kernel_rfl)]; simp), if_pos h]
theorem rowc_not {E : Fm → Bool} {f : Fm} (h0 : hdIn f cneg = false) (h1 : hdIn f ctwo = false) (h2 : hdIn f cthree = false) (h3 : hdIn f cany = false) (h4 : hdIn f cmap = false) (h5 : hdIn f cbits = false) (h6 : hdIn f cempty = false) (h7 : hdIn f cimap = false) (h8 : hdIn f capp = false) (h9 : hdIn f cisget = false) (h10 : hdIn f ccall = false) (h11 : hdIn f cprefix = false) (h12 : hdIn f cfuel = false) (h13 : hdIn f cold = false) (h14 : hdIn f clet = false) (h15 : hdIn f call = false) (h16 : hdIn f cpick = false) (h17 : hdIn f cmatch = false) (h18 : hdIn f cfn = false) (h19 : hdIn f cquant = false) : exprR E f = none := by
  unfold exprR bindR
  rw [if_neg (by rw [h0]; simp), if_neg (by rw [h1]; simp), if_neg (by rw [h2]; simp), if_neg (by rw [h3]; simp), if_neg (by rw [h4]; simp), if_neg (by rw [h5]; simp), if_neg (by rw [h6]; simp), if_neg (by rw [h7]; simp), if_neg (by rw [h8]; simp), if_neg (by rw [h9]; simp), if_neg (by rw [h10]; simp), if_neg (by rw [h11]; simp), if_neg (by rw [h12]; simp), if_neg (by rw [h13]; simp), if_neg (by rw [h14]; simp), if_neg (by rw [h15]; simp), if_neg (by rw [h16]; simp), if_neg (by rw [h17]; simp), if_neg (by rw [h18]; simp), if_neg (by rw [h19]; simp)]
set_option linter.unusedSimpArgs false in
theorem lo_some {E : Fm → Bool} {f : Fm} {R : RS} (h : exprR E f = some R) : listOk E f = R.ok (f.ks.drop 1) := by unfold listOk; rw [h]
set_option linter.unusedSimpArgs false in
theorem lo_neg {E : Fm → Bool} {f : Fm} (h : hdIn f cneg = true) : listOk E f = true ↔ (1 ≤ (f.ks.drop 1).length ∧ (f.ks.drop 1).length ≤ 1 ∧ AllE E (f.ks.drop 1)) := by
  rw [lo_some (rowc_neg h), ok_nil]
  rcases f.ks.drop 1 with _ | ⟨a, _ | ⟨b, r⟩⟩ <;> simp [okF, AllE, and_assoc]
set_option linter.unusedSimpArgs false in
theorem lo_two {E : Fm → Bool} {f : Fm} (h : hdIn f ctwo = true) : listOk E f = true ↔ (2 ≤ (f.ks.drop 1).length ∧ (f.ks.drop 1).length ≤ 2 ∧ AllE E (f.ks.drop 1)) := by
  rw [lo_some (rowc_two h), ok_nil]
  rcases f.ks.drop 1 with _ | ⟨a, _ | ⟨b, _ | ⟨c, r⟩⟩⟩ <;> simp [okF, AllE, and_assoc]
set_option linter.unusedSimpArgs false in
theorem lo_three {E : Fm → Bool} {f : Fm} (h : hdIn f cthree = true) : listOk E f = true ↔ (3 ≤ (f.ks.drop 1).length ∧ (f.ks.drop 1).length ≤ 3 ∧ AllE E (f.ks.drop 1)) := by
  rw [lo_some (rowc_three h), ok_nil]
  rcases f.ks.drop 1 with _ | ⟨a, _ | ⟨b, _ | ⟨c, _ | ⟨d, r⟩⟩⟩⟩ <;> simp [okF, AllE, and_assoc]
set_option linter.unusedSimpArgs false in
theorem lo_any {E : Fm → Bool} {f : Fm} (h : hdIn f cany = true) : listOk E f = true ↔ AllE E (f.ks.drop 1) := by
  rw [lo_some (rowc_any h), ok_nil]
  simp [okF, AllE]
set_option linter.unusedSimpArgs false in
theorem lo_app {E : Fm → Bool} {f : Fm} (h : hdIn f capp = true) : listOk E f = true ↔ (1 ≤ (f.ks.drop 1).length ∧ (f.ks.drop 1).length ≤ (f.ks.drop 1).length ∧ AllE E (f.ks.drop 1)) := by
  rw [lo_some (rowc_app h), ok_nil]
  rcases f.ks.drop 1 with _ | ⟨a, r⟩ <;> simp [okF, AllE, and_assoc]
def PairE (E : Fm → Bool) (p : Fm) : Prop := p.kd = 3 ∧ p.ks.length = 2 ∧ AllE E p.ks
set_option linter.unusedSimpArgs false in
theorem lo_map {E : Fm → Bool} {f : Fm} (h : hdIn f cmap = true) : listOk E f = true ↔ ∀ p ∈ f.ks.drop 1, PairE E p := by
  rw [lo_some (rowc_map h), ok_nil]
  simp only [okF, List.all_eq_true]
  refine forall_congr' fun p => forall_congr' fun _ => ?_
  rw [okP_list, ok_nil]
  unfold listF PairE AllE
  rcases p.ks with _ | ⟨a, _ | ⟨b, _ | ⟨c, r⟩⟩⟩ <;> simp [okF, and_assoc]
def NumP (lo hi : Int) (f : Fm) : Prop := f.kd = 0 ∧ lo ≤ f.nn ∧ f.nn ≤ hi
set_option linter.unusedSimpArgs false in
theorem okP_num (lo hi : Int) (f : Fm) : okP (numP lo hi) f = true ↔ NumP lo hi f := by simp [okP, numP, PS.inB, NumP]
set_option linter.unusedSimpArgs false in
theorem lo_bits {E : Fm → Bool} {f : Fm} (h : hdIn f cbits = true) : listOk E f = true ↔ ∃ a b, f.ks.drop 1 = [a, b] ∧ NumP 1 16 a ∧ NumP 0 1152921504606846976 b := by
  rw [lo_some (rowc_bits h), ok_nil]
  rcases f.ks.drop 1 with _ | ⟨a, _ | ⟨b, _ | ⟨c, r⟩⟩⟩ <;> simp [okF, okP_num, and_assoc]
set_option linter.unusedSimpArgs false in
theorem lo_empty {E : Fm → Bool} {f : Fm} (h : hdIn f cempty = true) : listOk E f = true ↔ ∃ a, f.ks.drop 1 = [a] ∧ typeF a = true := by
  rw [lo_some (rowc_empty h), ok_nil]
  rcases f.ks.drop 1 with _ | ⟨a, _ | ⟨b, r⟩⟩ <;> simp [okF, and_assoc]
set_option linter.unusedSimpArgs false in
theorem lo_imap {E : Fm → Bool} {f : Fm} (h : hdIn f cimap = true) : listOk E f = true ↔ ∃ a b, f.ks.drop 1 = [a, b] ∧ E a = true ∧ typeF b = true := by
  rw [lo_some (rowc_imap h), ok_nil]
  rcases f.ks.drop 1 with _ | ⟨a, _ | ⟨b, _ | ⟨c, r⟩⟩⟩ <;> simp [okF, and_assoc]
set_option linter.unusedSimpArgs false in
theorem lo_isget {E : Fm → Bool} {f : Fm} (h : hdIn f cisget = true) : listOk E f = true ↔ ∃ a b, f.ks.drop 1 = [a, b] ∧ nameF a = true ∧ E b = true := by
  rw [lo_some (rowc_isget h), ok_nil]
  rcases f.ks.drop 1 with _ | ⟨a, _ | ⟨b, _ | ⟨c, r⟩⟩⟩ <;> simp [okF, and_assoc]
set_option linter.unusedSimpArgs false in
theorem lo_prefix {E : Fm → Bool} {f : Fm} (h : hdIn f cprefix = true) : listOk E f = true ↔ ∃ a b r, f.ks.drop 1 = a :: b :: r ∧ nameF a = true ∧ AllE E (b :: r) := by
  rw [lo_some (rowc_prefix h), ok_nil]
  rcases f.ks.drop 1 with _ | ⟨a, _ | ⟨b, r⟩⟩ <;> simp [okF, AllE, and_assoc]
set_option linter.unusedSimpArgs false in
theorem lo_fuel {E : Fm → Bool} {f : Fm} (h : hdIn f cfuel = true) : listOk E f = true ↔ ∃ a b c, f.ks.drop 1 = [a, b, c] ∧ NumP 0 9 a ∧ nameF b = true ∧ E c = true := by
  rw [lo_some (rowc_fuel h), ok_nil]
  rcases f.ks.drop 1 with _ | ⟨a, _ | ⟨b, _ | ⟨c, _ | ⟨d, r⟩⟩⟩⟩ <;> simp [okF, okP_num, and_assoc]
set_option linter.unusedSimpArgs false in
theorem lo_old {E : Fm → Bool} {f : Fm} (h : hdIn f cold = true) : listOk E f = true ↔ ((∃ a, f.ks.drop 1 = [a] ∧ E a = true) ∨ ∃ a b, f.ks.drop 1 = [a, b] ∧ nameF a = true ∧ E b = true) := by
  rw [lo_some (rowc_old h)]
  have hl : (f.ks.drop 1).length = f.ks.length - 1 := by simp
  by_cases h2 : 2 < f.ks.length
  · rw [if_pos h2, ok_nil]
    rcases hk : f.ks.drop 1 with _ | ⟨a, _ | ⟨b, _ | ⟨c, r⟩⟩⟩ <;> rw [hk] at hl <;> simp [okF, and_assoc] at hl ⊢ <;> omega
  · rw [if_neg h2, ok_nil]
    rcases hk : f.ks.drop 1 with _ | ⟨a, _ | ⟨b, _ | ⟨c, r⟩⟩⟩ <;> rw [hk] at hl <;> simp [okF, and_assoc] at hl ⊢ <;> omega
def Ranged (E : Fm → Bool) (n : Nat) (f : Fm) : Prop := f.kd = 3 ∧ ∃ y r, f.ks = y :: r ∧ r.length = n ∧ nameF y = true ∧ AllE E r
set_option linter.unusedSimpArgs false in
theorem okP_bind1 (E : Fm → Bool) (f : Fm) : okP (bindP [exprP E]) f = true ↔ Ranged E 1 f := by
  unfold bindP Ranged
  rw [okP_list, ok_back]
  unfold listF
  rcases h : f.ks with _ | ⟨a, _ | ⟨b, _ | ⟨c, r⟩⟩⟩ <;> simp [okF, AllE, and_assoc]
set_option linter.unusedSimpArgs false in
theorem okP_bind2 (E : Fm → Bool) (f : Fm) : okP (bindP [exprP E, exprP E]) f = true ↔ Ranged E 2 f := by
  unfold bindP Ranged
  rw [okP_list, ok_back]
  unfold listF
  rcases h : f.ks with _ | ⟨a, _ | ⟨b, _ | ⟨c, _ | ⟨d, r⟩⟩⟩⟩ <;> simp [okF, AllE, and_assoc]
set_option linter.unusedSimpArgs false in
theorem lo_let {E : Fm → Bool} {f : Fm} (h : hdIn f clet = true) : listOk E f = true ↔ ∃ a b, f.ks.drop 1 = [a, b] ∧ Ranged E 1 a ∧ E b = true := by
  rw [lo_some (rowc_let h), ok_nil]
  rcases f.ks.drop 1 with _ | ⟨a, _ | ⟨b, _ | ⟨c, r⟩⟩⟩ <;> simp [okF, okP_bind1, and_assoc]
set_option linter.unusedSimpArgs false in
theorem lo_all {E : Fm → Bool} {f : Fm} (h : hdIn f call = true) : listOk E f = true ↔ ∃ a b, f.ks.drop 1 = [a, b] ∧ Ranged E 2 a ∧ E b = true := by
  rw [lo_some (rowc_all h), ok_nil]
  rcases f.ks.drop 1 with _ | ⟨a, _ | ⟨b, _ | ⟨c, r⟩⟩⟩ <;> simp [okF, okP_bind2, and_assoc]
set_option linter.unusedSimpArgs false in
theorem lo_pick {E : Fm → Bool} {f : Fm} (h : hdIn f cpick = true) : listOk E f = true ↔ ∃ a b c, f.ks.drop 1 = [a, b, c] ∧ Ranged E 2 a ∧ E b = true ∧ E c = true := by
  rw [lo_some (rowc_pick h), ok_nil]
  rcases f.ks.drop 1 with _ | ⟨a, _ | ⟨b, _ | ⟨c, _ | ⟨d, r⟩⟩⟩⟩ <;> simp [okF, okP_bind2, and_assoc]
def texts (l : List Fm) : List (List UInt8) := l.map fun f => f.tx.data.toList
def firsts (l : List Fm) : List Fm := l.map fun p => p.ks.headD p
theorem names_texts {l : List Fm} (h : ∀ x ∈ l, nameF x = true) : namesOf l = texts l := by
  unfold namesOf texts
  refine List.map_congr_left fun x hx => ?_
  have := h x hx
  simp only [nameF, Bool.and_eq_true, decide_eq_true_eq] at this
  unfold nameOf
  rw [if_neg (by omega)]
theorem names_firsts {l : List Fm} (h : ∀ x ∈ l, pairF x = true) : namesOf l = texts (firsts l) := by
  unfold namesOf texts firsts
  rw [List.map_map]
  refine List.map_congr_left fun x hx => ?_
  obtain ⟨h3, a, b, e, _⟩ := (pairF_iff x).1 (h x hx)
  unfold nameOf
  rw [if_pos h3, e]
  simp [e]
def Names (f : Fm) : Prop := f.kd = 3 ∧ (∀ x ∈ f.ks, nameF x = true)
set_option linter.unusedSimpArgs false in
theorem okP_names (f : Fm) : okP namesP f = true ↔ (Names f ∧ (texts f.ks).Nodup) := by
  unfold namesP
  rw [okP_list, ok_nil]
  unfold listF Names
  simp only [okF, Bool.and_eq_true, decide_eq_true_eq, List.all_eq_true, okP_name, and_assoc]
  refine and_congr_right fun _ => and_congr_right fun h => ?_
  rw [differB, names_texts h, decide_eq_true_iff]
def Arm (E : Fm → Bool) (a : Fm) : Prop := a.kd = 3 ∧ ∃ c n e, a.ks = [c, n, e] ∧ nameF c = true ∧ Names n ∧ (texts n.ks).Nodup ∧ E e = true
set_option linter.unusedSimpArgs false in
theorem okP_arm (E : Fm → Bool) (a : Fm) : okP (listP ⟨[nameP, namesP, exprP E], none, []⟩ (fun _ => true)) a = true ↔ Arm E a := by
  rw [okP_list, ok_nil]
  unfold listF Arm
  rcases h : a.ks with _ | ⟨x, _ | ⟨y, _ | ⟨z, _ | ⟨d, r⟩⟩⟩⟩ <;> simp [okF, okP_names, and_assoc]
set_option linter.unusedSimpArgs false in
theorem lo_match {E : Fm → Bool} {f : Fm} (h : hdIn f cmatch = true) : listOk E f = true ↔ ∃ e a r, f.ks.drop 1 = e :: a :: r ∧ E e = true ∧ ∀ m ∈ a :: r, Arm E m := by
  rw [lo_some (rowc_match h), ok_nil]
  rcases f.ks.drop 1 with _ | ⟨x, _ | ⟨y, r⟩⟩
  · simp [okF]
  · simp [okF]
  · simp only [okF, Bool.and_eq_true, okP_expr, okP_arm, List.all_eq_true]
    constructor
    · rintro ⟨h1, h2, h3⟩
      exact ⟨x, y, r, rfl, h1, fun m hm => (List.mem_cons.1 hm).elim (fun e => e ▸ h2) (h3 m)⟩
    · rintro ⟨e, a, r', he, h1, h2⟩
      injection he with e1 he; injection he with e2 e3
      subst e1 e2 e3
      exact ⟨h1, h2 _ (by simp), fun m hm => h2 m (by simp [hm])⟩
def Pairs (f : Fm) : Prop := f.kd = 3 ∧ ∀ p ∈ f.ks, pairF p = true
set_option linter.unusedSimpArgs false in
theorem okP_params (f : Fm) : okP paramsP f = true ↔ (Pairs f ∧ (texts (firsts f.ks)).Nodup) := by
  unfold paramsP
  rw [okP_list, ok_nil]
  unfold listF Pairs
  simp only [okF, Bool.and_eq_true, decide_eq_true_eq, List.all_eq_true, okP_typed, and_assoc]
  refine and_congr_right fun _ => and_congr_right fun h => ?_
  rw [differB, names_firsts h, decide_eq_true_iff]
set_option linter.unusedSimpArgs false in
theorem okP_some (f : Fm) : okP (listP ⟨[typedP], some typedP, []⟩ differB) f = true ↔ (Pairs f ∧ f.ks ≠ [] ∧ (texts (firsts f.ks)).Nodup) := by
  rw [okP_list, ok_nil]
  unfold listF Pairs
  rcases hf : f.ks with _ | ⟨x, r⟩
  · simp [okF]
  · simp only [okF, Bool.and_eq_true, decide_eq_true_eq, List.all_eq_true, okP_typed]
    constructor
    · rintro ⟨h1, ⟨h2, h3⟩, h4⟩
      have h : ∀ p ∈ x :: r, pairF p = true := fun p hp => (List.mem_cons.1 hp).elim (fun e => e ▸ h2) (h3 p)
      rw [differB, names_firsts h, decide_eq_true_iff] at h4
      exact ⟨⟨h1, h⟩, by simp, h4⟩
    · rintro ⟨⟨h1, h⟩, _, h4⟩
      rw [differB, names_firsts h, decide_eq_true_iff]
      exact ⟨h1, ⟨h _ (by simp), fun p hp => h p (by simp [hp])⟩, h4⟩
set_option linter.unusedSimpArgs false in
theorem lo_fn {E : Fm → Bool} {f : Fm} (h : hdIn f cfn = true) : listOk E f = true ↔ ∃ a b, f.ks.drop 1 = [a, b] ∧ Pairs a ∧ (texts (firsts a.ks)).Nodup ∧ E b = true := by
  rw [lo_some (rowc_fn h), ok_nil]
  rcases f.ks.drop 1 with _ | ⟨a, _ | ⟨b, _ | ⟨c, r⟩⟩⟩ <;> simp [okF, okP_params, and_assoc]
def Trig (E : Fm → Bool) (f : Fm) : Prop := (headF f).toList = [116, 114, 105, 103, 103, 101, 114] ∧ 2 ≤ f.ks.length ∧ AllE E (f.ks.drop 1)
theorem head_list {f : Fm} (h : (headF f).toList ≠ []) : f.kd = 3 := by
  by_cases h3 : f.kd = 3
  · exact h3
  · refine absurd ?_ h
    have : headF f = ⟨#[]⟩ := headF_nil (by unfold Fm.kids; rw [if_neg h3])
    rw [this]; exact toList_nil rfl
theorem memB_one (v h : ByteArray) : memB v [h] = decide (v.toList = h.toList) := by
  unfold memB; rw [Bool.eq_iff_iff]; simp
set_option linter.unusedSimpArgs false in
theorem okP_trig (E : Fm → Bool) (f : Fm) : okP (behindP trigW ⟨[exprP E], some (exprP E), []⟩) f = true ↔ Trig E f := by
  unfold behindP headedP okP PS.inB Trig
  simp only [memB_one, ok_nil]
  have e : trigW.toList = [116, 114, 105, 103, 103, 101, 114] := by kernel_rfl
  rw [e]
  unfold listF
  constructor
  · intro h
    simp only [Bool.and_eq_true, decide_eq_true_eq] at h
    obtain ⟨h1, h2, h3⟩ := h
    refine ⟨h2, ?_, ?_⟩ <;> rcases hk : f.ks with _ | ⟨a, _ | ⟨b, r⟩⟩ <;> rw [hk] at h3 <;> simp [okF, AllE, and_assoc] at h3 ⊢
    exact h3
  · rintro ⟨h2, h3, h4⟩
    have h1 := head_list (f := f) (by rw [h2]; simp)
    simp only [Bool.and_eq_true, decide_eq_true_eq]
    refine ⟨h1, h2, ?_⟩
    rcases hk : f.ks with _ | ⟨a, _ | ⟨b, r⟩⟩ <;> rw [hk] at h3 h4 <;> simp [okF, AllE, and_assoc] at h3 h4 ⊢
    exact h4
set_option linter.unusedSimpArgs false in
theorem lo_quant {E : Fm → Bool} {f : Fm} (h : hdIn f cquant = true) : listOk E f = true ↔ ∃ a ms e, f.ks.drop 1 = a :: (ms ++ [e]) ∧ Pairs a ∧ a.ks ≠ [] ∧ (texts (firsts a.ks)).Nodup ∧ (∀ m ∈ ms, Trig E m) ∧ E e = true := by
  rw [lo_some (rowc_quant h), ok_quant]
  simp only [okP_some, okP_trig, okP_expr, and_assoc]
def Types (f : Fm) : Prop := 2 ≤ f.ks.length ∧ ∀ x ∈ f.ks.drop 1, typeF x = true
def isOfK (u : Fm) : Prop := (headF u).toList = [111, 102]
set_option linter.unusedSimpArgs false in
theorem okP_of (f : Fm) (h : isOfK f) : okP (behindP ofW ⟨[typeP], some typeP, []⟩) f = true ↔ Types f := by
  unfold behindP headedP okP PS.inB Types
  simp only [memB_one, ok_nil]
  have e : ofW.toList = [111, 102] := by kernel_rfl
  rw [e]
  have h1 := head_list (f := f) (by rw [h]; simp)
  unfold isOfK at h
  unfold listF
  simp only [h, h1, decide_true, Bool.true_and]
  rcases hk : f.ks with _ | ⟨a, _ | ⟨b, r⟩⟩ <;> simp [okF, and_assoc]
theorem isOf_iff {f x y u : Fm} {r : List Fm} (h : f.ks = x :: y :: u :: r) : isOf f = true ↔ isOfK u := by
  unfold isOf; rw [h]
  simp only [memB_one, decide_eq_true_iff, isOfK]
  have e : ofW.toList = [111, 102] := by kernel_rfl
  rw [e]
set_option linter.unusedSimpArgs false in
theorem lo_call {E : Fm → Bool} {f : Fm} (hne : f.ks ≠ []) (h : hdIn f ccall = true) : listOk E f = true ↔ ∃ a r, f.ks.drop 1 = a :: r ∧ nameF a = true ∧ ((∃ u s, r = u :: s ∧ isOfK u ∧ Types u ∧ AllE E s) ∨ ((∀ u s, r = u :: s → ¬ isOfK u) ∧ AllE E r)) := by
  rw [lo_some (rowc_call h)]
  obtain ⟨x, k, hk⟩ := List.exists_cons_of_ne_nil hne
  have hd : f.ks.drop 1 = k := by rw [hk]; rfl
  rw [hd]
  unfold callR
  rcases k with _ | ⟨a, _ | ⟨u, s⟩⟩
  · have : isOf f = false := by unfold isOf; rw [hk]
    rw [if_neg (by rw [this]; simp), ok_nil]; simp [okF]
  · have : isOf f = false := by unfold isOf; rw [hk]
    rw [if_neg (by rw [this]; simp), ok_nil]; simp [okF, AllE, and_assoc]
  · by_cases ho : isOfK u
    · rw [if_pos ((isOf_iff hk).2 ho), ok_nil]
      simp only [okF, Bool.and_eq_true, okP_name, okP_of u ho, List.all_eq_true, okP_expr]
      constructor
      · rintro ⟨h1, h2, h3⟩
        exact ⟨a, u :: s, rfl, h1, .inl ⟨u, s, rfl, ho, h2, h3⟩⟩
      · rintro ⟨a', r, e, h1, h2⟩
        injection e with e1 e2; subst e1 e2
        rcases h2 with ⟨u', s', e, _, h3, h4⟩ | ⟨h3, _⟩
        · injection e with e1 e2; subst e1 e2; exact ⟨h1, h3, h4⟩
        · exact absurd ho (h3 u s rfl)
    · rw [if_neg (fun e => ho ((isOf_iff hk).1 e)), ok_nil]
      simp only [okF, Bool.and_eq_true, okP_name, List.all_eq_true, okP_expr]
      constructor
      · rintro ⟨h1, h2⟩
        exact ⟨a, u :: s, rfl, h1, .inr ⟨fun u' s' e => by injection e with e1 e2; subst e1; exact ho, h2⟩⟩
      · rintro ⟨a', r, e, h1, h2⟩
        injection e with e1 e2; subst e1 e2
        rcases h2 with ⟨u', s', e, h3, _⟩ | ⟨_, h3⟩
        · injection e with e1 e2; subst e1; exact absurd h3 ho
        · exact ⟨h1, h3⟩
end Go.Proofs.YtmlfiopbdlaaaaaGreat
