/- A block of four cells: a form's own. -/
import Derived.Test.YtedabholcldgbaaGreatDoorWalk
namespace Go.Proofs.YtedabholcldgbaaGreatDoor
open Go.RowKit Go.Deep

/-- A block of four cells. -/
abbrev Blk4 (w : World) (b : Nat) (v0 v1 v2 v3 : Value) : Prop := w.heap[b]? = some (.cells #[v0, v1, v2, v3] 29 (0, 0))
theorem Blk4.facts {w : World} {b : Nat} {v0 v1 v2 v3 : Value} (h : Blk4 w b v0 v1 v2 v3) :
    w.cell? ⟨b, 0, none⟩ = some v0 ∧ w.cell? ⟨b, 1, none⟩ = some v1 ∧ w.cell? ⟨b, 2, none⟩ = some v2 ∧ w.cell? ⟨b, 3, none⟩ = some v3 ∧
    w.frozen? ⟨b, 0, none⟩ = false ∧ w.frozen? ⟨b, 1, none⟩ = false ∧ w.frozen? ⟨b, 2, none⟩ = false ∧ w.frozen? ⟨b, 3, none⟩ = false := by
  refine ⟨?_, ?_, ?_, ?_, ?_, ?_, ?_, ?_⟩ <;> simp [World.cell?, World.frozen?, show w.heap[b]? = _ from h]
abbrev lay4 (w : World) (b : Nat) (u0 u1 u2 u3 : Value) : World := (((w.setCell ⟨b, 0, none⟩ u0).setCell ⟨b, 1, none⟩ u1).setCell ⟨b, 2, none⟩ u2).setCell ⟨b, 3, none⟩ u3
theorem Blk4.set {w : World} {b : Nat} {v0 v1 v2 v3 : Value} (h : Blk4 w b v0 v1 v2 v3) (u0 u1 u2 u3 : Value) : Blk4 (lay4 w b u0 u1 u2 u3) b u0 u1 u2 u3 := by
  have h0 := heap_setCell_same w b 0 _ _ u0 h
  have h1 := heap_setCell_same _ b 1 _ _ u1 h0
  have h2 := heap_setCell_same _ b 2 _ _ u2 h1
  have h3 := heap_setCell_same _ b 3 _ _ u3 h2
  simpa using h3
theorem Blk4.other {w : World} {b c : Nat} {v0 v1 v2 v3 : Value} (h : Blk4 w b v0 v1 v2 v3) (hne : b ≠ c) (u0 u1 u2 u3 : Value) : Blk4 (lay4 w c u0 u1 u2 u3) b v0 v1 v2 v3 := by
  have h0 := heap_setCell_other w ⟨c, 0, none⟩ b u0 hne
  have h1 := heap_setCell_other (w.setCell ⟨c, 0, none⟩ u0) ⟨c, 1, none⟩ b u1 hne
  have h2 := heap_setCell_other ((w.setCell ⟨c, 0, none⟩ u0).setCell ⟨c, 1, none⟩ u1) ⟨c, 2, none⟩ b u2 hne
  have h3 := heap_setCell_other (((w.setCell ⟨c, 0, none⟩ u0).setCell ⟨c, 1, none⟩ u1).setCell ⟨c, 2, none⟩ u2) ⟨c, 3, none⟩ b u3 hne
  exact ((h3.trans h2).trans (h1.trans h0)).trans h
theorem Blk4.below {w w' : World} {b : Nat} {v0 v1 v2 v3 : Value} (h : Blk4 w b v0 v1 v2 v3) (hb : Below w.heap.size w w') : Blk4 w' b v0 v1 v2 v3 := (hb.block b (lt_of_block h)).trans h
theorem below_lay4 {B : Nat} {a w : World} (h : Below B a w) {b : Nat} (hb : B ≤ b) (u0 u1 u2 u3 : Value) : Below B a (lay4 w b u0 u1 u2 u3) :=
  (((h.setCell (p := ⟨b, 0, none⟩) hb u0).setCell (p := ⟨b, 1, none⟩) hb u1).setCell (p := ⟨b, 2, none⟩) hb u2).setCell (p := ⟨b, 3, none⟩) hb u3

theorem res_new (w : World) (o o' : Obj) : ((w.alloc o).alloc o').heap[w.heap.size + 1]? = some o' := by
  have := heap_alloc_new (w.alloc o) o'
  rwa [show (w.alloc o).heap.size = w.heap.size + 1 by simp] at this
end Go.Proofs.YtedabholcldgbaaGreatDoor
