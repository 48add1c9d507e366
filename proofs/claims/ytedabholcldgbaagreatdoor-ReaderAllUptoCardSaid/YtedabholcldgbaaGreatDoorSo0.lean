/- Sorting forms in memory: the row in a block, and what a step leaves. -/
import Derived.Test.YtedabholcldgbaaGreatDoorCmp
import Derived.Shelf.SlSortCmp.InsertionK
import Derived.Deep.RegionHeld3
import Derived.Deep.Upon
namespace Go.Proofs.YtedabholcldgbaaGreatDoor.So
open Go.RowKit Go.Deep Go.Sort Go.Shelf

def encT (t : T) : List Value := [.int .i64 t.kd, .int .i64 t.nn, .string t.tx, .slice t.ad t.ks.length t.cp]
theorem encT_len (t : T) : (encT t).length = 4 := rfl
theorem encT_one (t : T) : ∀ v ∈ encT t, v.oneCell' = true := by
  intro v h
  simp only [encT, List.mem_cons, List.not_mem_nil, or_false] at h
  rcases h with rfl | rfl | rfl | rfl <;> rfl
instance : Inhabited T := ⟨.mk 0 0 ⟨#[]⟩ none 0 []⟩
/-- The row d lies in block g; since w0 no other block has turned. -/
structure Hd (w0 w : World) (g : Nat) (d : Array T) : Prop where
  row : HoldsK encT 4 w g 0 d
  os : w.os = w0.os
  tape : w.tape = w0.tape
  output : w.output = w0.output
  size : w0.heap.size ≤ w.heap.size
  block : ∀ k, k < w0.heap.size → k ≠ g → w.heap[k]? = w0.heap[k]?
  lt : g < w0.heap.size
theorem Hd.next {w0 w w' : World} {g : Nat} {d : Array T} (h : Hd w0 w g d) (hb : Below w.heap.size w w') : Hd w0 w' g d := by
  refine ⟨fun j hj => ?_, hb.os.trans h.os, hb.tape.trans h.tape, hb.output.trans h.output, Nat.le_trans h.size hb.size, fun k hk hg => (hb.block k (Nat.lt_of_lt_of_le hk h.size)).trans (h.block k hk hg), h.lt⟩
  have hs := hb.block g (Nat.lt_of_lt_of_le h.lt h.size)
  have := h.row j hj
  constructor
  · rw [← this.1]; exact World.cell?_of_block (by exact hs)
  · rw [← this.2]; simp only [World.frozen?, hs]
theorem Hd.drew {w0 w : World} {g : Nat} {d : Array T} (h : Hd w0 w g d) : Hd w0 w.drew g d := h.next (Below.refl _ _).drew
theorem Hd.alloc {w0 w : World} {g : Nat} {d : Array T} (h : Hd w0 w g d) (o : Obj) : Hd w0 (w.alloc o) g d := h.next (bel1 _ _)
theorem setCells_same (b : Nat) : ∀ (vs : List Value) (o : Nat) (w : World), (w.setCells b o vs).os = w.os ∧ (w.setCells b o vs).tape = w.tape ∧ (w.setCells b o vs).output = w.output
  | [], _, _ => ⟨rfl, rfl, rfl⟩
  | v :: r, o, w => by
    rw [World.setCells]
    obtain ⟨h1, h2, h3⟩ := setCells_same b r (o + 1) (w.setCell ⟨b, o, none⟩ v)
    have e : (w.setCell ⟨b, o, none⟩ v).os = w.os ∧ (w.setCell ⟨b, o, none⟩ v).tape = w.tape ∧ (w.setCell ⟨b, o, none⟩ v).output = w.output := by
      unfold World.setCell; split <;> exact ⟨rfl, rfl, rfl⟩
    exact ⟨h1.trans e.1, h2.trans e.2.1, h3.trans e.2.2⟩
/-- Two elements are exchanged. -/
theorem Hd.swap {w0 w : World} {g : Nat} {d : Array T} (h : Hd w0 w g d) {i j : Nat} (hi : i < d.size) (hj : j < d.size) :
    Hd w0 ((w.setCells g (i * 4) (encT d[j]!)).setCells g (j * 4) (encT d[i]!)) g (swp d i j) := by
  have z : ∀ x : Nat, 0 + x = x := Nat.zero_add
  rw [← z (i * 4), ← z (j * 4)]
  have e := putRowK_self encT 4 w g 0 d h.row
  have hs := putRowK_swp encT 4 encT_len w g 0 d i j hi hj
  rw [e] at hs
  have hr : HoldsK encT 4 ((w.setCells g (0 + i * 4) (encT d[j]!)).setCells g (0 + j * 4) (encT d[i]!)) g 0 (swp d i j) := by
    rw [hs]; exact holdsK_putRowK encT 4 w g 0 d _ h.row (by rw [size_swp])
  obtain ⟨a1, a2, a3⟩ := setCells_same g (encT d[j]!) (0 + i * 4) w
  obtain ⟨b1, b2, b3⟩ := setCells_same g (encT d[i]!) (0 + j * 4) (w.setCells g (0 + i * 4) (encT d[j]!))
  refine ⟨hr, b1.trans (a1.trans h.os), b2.trans (a2.trans h.tape), b3.trans (a3.trans h.output), by rw [size_setCells, size_setCells]; exact h.size, fun k hk hg => ?_, h.lt⟩
  have h1 : k < w.heap.size := Nat.lt_of_lt_of_le hk h.size
  rw [World.heap_setCells_other _ _ _ _ (by rw [size_setCells]; exact h1) hg, World.heap_setCells_other _ _ _ _ h1 hg]
  exact h.block k hk hg
/-- A form of the row, in a later world. -/
def Far (w0 : World) (g : Nat) (t : T) : Prop := In w0 t ∧ ∀ b, On t b → b ≠ g
theorem Hd.far {w0 w : World} {g : Nat} {d : Array T} (h : Hd w0 w g d) {t : T} (ht : Far w0 g t) : In w t :=
  In.same _ (Nat.lt_succ_self _) ht.1 fun b hb => h.block b (In.lt hb ht.1) (ht.2 b hb)
/-- The loads and stores of an exchange, as equations. -/
theorem Hd.moves {w0 w : World} {g : Nat} {d : Array T} (h : Hd w0 w g d) {i j : Nat} (hi : i < d.size) (hj : j < d.size) :
    Sem.run Tryz.prog (loadCellsFrom ⟨g, j * 4, none⟩ 0 4 #[]) w = .ok (encT d[j]!).toArray w ∧ Sem.run Tryz.prog (loadCellsFrom ⟨g, i * 4, none⟩ 0 4 #[]) w = .ok (encT d[i]!).toArray w ∧
      Sem.run Tryz.prog (storeCells ⟨g, i * 4, none⟩ (encT d[j]!) 0) w = .ok () (w.setCells g (i * 4) (encT d[j]!)) ∧
      Sem.run Tryz.prog (storeCells ⟨g, j * 4, none⟩ (encT d[i]!) 0) (w.setCells g (i * 4) (encT d[j]!)) = .ok () ((w.setCells g (i * 4) (encT d[j]!)).setCells g (j * 4) (encT d[i]!)) := by
  have bnd : ∀ x, x < d.size → x * 4 + 4 ≤ d.size * 4 := fun x hx => by omega
  have z : ∀ x : Nat, 0 + x = x := Nat.zero_add
  rw [← z (i * 4), ← z (j * 4)]
  refine ⟨run_loadCellsFrom_list Tryz.prog _ _ _ 4 (encT_len _) (HoldsK.cells h.row encT_len hj), run_loadCellsFrom_list Tryz.prog _ _ _ 4 (encT_len _) (HoldsK.cells h.row encT_len hi), ?_, ?_⟩
  · exact stores_of_holds Tryz.prog h.row (i * 4) _ (by rw [encT_len, size_flatK]; exact bnd i hi) (encT_one _)
  · exact stores_of_holds Tryz.prog (holds_setCells_c h.row (i * 4) _ (by rw [encT_len, size_flatK]; exact bnd i hi)) (j * 4) _ (by rw [encT_len, size_setMany, size_flatK]; exact bnd j hj) (encT_one _)

/-- Two stretches of n elements exchanged. -/
def swR (e : Nat → T) (a b n x : Nat) : T := if a ≤ x ∧ x < a + n then e (x - a + b) else if b ≤ x ∧ x < b + n then e (x - b + a) else e x
/-- The row told by a function. -/
def Is (d : Array T) (n : Nat) (e : Nat → T) : Prop := d.size = n ∧ ∀ x, x < n → d[x]! = e x
end Go.Proofs.YtedabholcldgbaaGreatDoor.So
