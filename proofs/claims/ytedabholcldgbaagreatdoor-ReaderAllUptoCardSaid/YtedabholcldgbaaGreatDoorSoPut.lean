/- A row of forms: one element put, the rest cleared. -/
import Derived.Test.YtedabholcldgbaaGreatDoorSoStable
import Derived.Lib.SliceRun
namespace Go.Proofs.YtedabholcldgbaaGreatDoor.So
open Go.RowKit Go.Deep Go.Sort Go.Shelf

theorem set_other (d : Array T) {i j : Nat} (t : T) (h : j ≠ i) : (d.setIfInBounds i t)[j]! = d[j]! := by
  by_cases hj : j < d.size
  · rw [getElem!_pos (d.setIfInBounds i t) j (by simpa using hj), getElem!_pos d j hj]
    exact Array.getElem_setIfInBounds_ne hj (Ne.symm h)
  · rw [getElem!_neg (d.setIfInBounds i t) j (by simpa using hj), getElem!_neg d j hj]
theorem setMany_one (d : Array T) (i : Nat) (t : T) (hi : i < d.size) : setMany (flatK encT 4 d) (i * 4) (encT t) = flatK encT 4 (d.setIfInBounds i t) := by
  refine ext_get! (by simp) fun x hx => ?_
  have hx' : x < d.size * 4 := by simpa using hx
  rw [get_setMany _ _ _ x (by simpa using hx'), get_flatK _ _ _ x hx', get_flatK _ _ _ x (by simpa using hx'), encT_len]
  by_cases a : x / 4 = i
  · rw [if_pos ((blk_iff 4 i x (by decide)).2 a), a]
    have h1 : (d.setIfInBounds i t)[i]! = t := by simp [hi]
    rw [h1]
    congr 1
    have := Nat.div_add_mod x 4
    omega
  · rw [if_neg fun h => a ((blk_iff 4 i x (by decide)).1 h)]
    rw [set_other d t a]
/-- One element is put. -/
theorem Hd.put {w0 w : World} {g : Nat} {d : Array T} (h : Hd w0 w g d) {i : Nat} (hi : i < d.size) (t : T) : Hd w0 (w.setCells g (i * 4) (encT t)) g (d.setIfInBounds i t) := by
  have hr : HoldsK encT 4 (w.setCells g (i * 4) (encT t)) g 0 (d.setIfInBounds i t) := by
    have := holds_setCells_c h.row (i * 4) (encT t) (by rw [encT_len, size_flatK]; omega)
    rw [setMany_one d i t hi, Nat.zero_add] at this
    exact this
  obtain ⟨a1, a2, a3⟩ := setCells_same g (encT t) (i * 4) w
  exact ⟨hr, a1.trans h.os, a2.trans h.tape, a3.trans h.output, by rw [size_setCells]; exact h.size, fun k hk hg => (World.heap_setCells_other _ _ _ _ (Nat.lt_of_lt_of_le hk h.size) hg).trans (h.block k hk hg), h.lt⟩
theorem Hd.store {w0 w : World} {g : Nat} {d : Array T} (h : Hd w0 w g d) {i : Nat} (hi : i < d.size) (t : T) : Sem.run Tryz.prog (storeCells ⟨g, i * 4, none⟩ (encT t) 0) w = .ok () (w.setCells g (i * 4) (encT t)) := by
  have z : ∀ x : Nat, 0 + x = x := Nat.zero_add
  rw [← z (i * 4)]
  exact stores_of_holds Tryz.prog h.row (i * 4) _ (by rw [encT_len, size_flatK]; omega) (encT_one _)
theorem Hd.load {w0 w : World} {g : Nat} {d : Array T} (h : Hd w0 w g d) {i : Nat} (hi : i < d.size) : Sem.run Tryz.prog (loadCellsFrom ⟨g, i * 4, none⟩ 0 4 #[]) w = .ok (encT d[i]!).toArray w := by
  have z : ∀ x : Nat, 0 + x = x := Nat.zero_add
  rw [← z (i * 4)]
  exact run_loadCellsFrom_list Tryz.prog _ _ _ 4 (encT_len _) (HoldsK.cells h.row encT_len hi)
theorem put_is {d : Array T} {n i : Nat} {e : Nat → T} (h : Is d n e) (hi : i < n) (t : T) : Is (d.setIfInBounds i t) n (fun x => if x = i then t else e x) := by
  refine ⟨by simpa using h.1, fun x hx => ?_⟩
  have := h.2 x hx
  have hd := h.1
  by_cases c : x = i
  · subst c; simp [show x < d.size by omega]
  · show (d.setIfInBounds i t)[x]! = if x = i then t else e x
    rw [if_neg c, ← this, set_other d t c]
/-- The first k elements of the row; since w0 no other block has turned. -/
structure Fst (w0 w : World) (g : Nat) (k : Nat) (e : Nat → T) : Prop where
  cells : ∀ i, i < k → Cells4 w g (i * 4) (e i)
  below : ∀ j, j < w0.heap.size → j ≠ g → w.heap[j]? = w0.heap[j]?
  os : w.os = w0.os
  tape : w.tape = w0.tape
  output : w.output = w0.output
  size : w0.heap.size ≤ w.heap.size
theorem Hd.first {w0 w : World} {g n : Nat} {d : Array T} {e : Nat → T} (h : Hd w0 w g d) (hi : Is d n e) : Fst w0 w g n e := by
  refine ⟨fun i hin => ?_, h.block, h.os, h.tape, h.output, h.size⟩
  have hd := hi.1
  have c : ∀ j, j < 4 → w.cell? ⟨g, i * 4 + j, none⟩ = some (encT (e i))[j]! := fun j hj => by
    have := (h.row.cell (i := i) (c := j) (by omega) hj).1
    rw [Nat.zero_add, hi.2 i hin] at this
    exact this
  exact ⟨c 0 (by decide), c 1 (by decide), c 2 (by decide), c 3 (by decide)⟩
/-- 'clear' of a stretch of forms. -/
theorem run_clear_forms (w : World) (b o n c : Nat) (hn : 0 < n) (hc : ∀ j, j < n * 4 → (w.cell? ⟨b, o + j, none⟩).isSome = true) (hf : ∀ j, j < n * 4 → w.frozen? ⟨b, o + j, none⟩ = false) :
    ∃ zs : List Value, ∀ ty : TypeId, (Builtin.clear_ #[22] ty #[.slice (some ⟨b, o, none⟩) n c]).run Tryz.prog w = .ok (.tuple #[]) (w.setCells b o zs) := by
  have hz : ∀ w, (zeroValue 29).run Tryz.prog w = .ok (.agg #[.int .i64 0, .int .i64 0, .string ⟨#[]⟩, .slice none 0 0]) w := Tryz.zeroValue29
  refine ⟨(Builtin.zeroCells (Value.agg #[.int .i64 0, .int .i64 0, .string ⟨#[]⟩, .slice none 0 0]).cells n).toList, fun ty => ?_⟩
  have hsz : (Builtin.zeroCells (Value.agg #[.int .i64 0, .int .i64 0, .string ⟨#[]⟩, .slice none 0 0]).cells n).toList.length = n * 4 := by
    have h4 : (Value.agg #[.int .i64 0, .int .i64 0, .string ⟨#[]⟩, .slice none 0 0]).cells.size = 4 := rfl
    rw [Array.length_toList, size_zeroCells, h4]
  have hone : ∀ v ∈ (Builtin.zeroCells (Value.agg #[.int .i64 0, .int .i64 0, .string ⟨#[]⟩, .slice none 0 0]).cells n).toList, v.oneCell' = true := by
    intro v hv
    have h4 : (Value.agg #[.int .i64 0, .int .i64 0, .string ⟨#[]⟩, .slice none 0 0]).cells = #[.int .i64 0, .int .i64 0, .string ⟨#[]⟩, .slice none 0 0] := rfl
    rw [h4] at hv
    simp only [Builtin.zeroCells, Array.mem_toList_iff, Array.mem_map, Array.mem_range] at hv
    obtain ⟨i, hi, rfl⟩ := hv
    have h5 : i % 4 = 0 ∨ i % 4 = 1 ∨ i % 4 = 2 ∨ i % 4 = 3 := by omega
    rcases h5 with h5 | h5 | h5 | h5 <;> simp [h5, Value.oneCell']
  have hst := run_storeCells_cells (P := Tryz.prog) b o _ 0 w (by rw [hsz]; simpa using hc) (by rw [hsz]; simpa using hf) hone
  simp only [Nat.add_zero] at hst
  obtain ⟨m, rfl⟩ : ∃ m, n = m + 1 := ⟨n - 1, by omega⟩
  simp [Builtin.clear_, run_underlying Tryz.underlying22, hz, hst]
theorem cell_setCells (g : Nat) (vs : List Value) (o j : Nat) (w : World) (h : j < o) : (w.setCells g o vs).cell? ⟨g, j, none⟩ = w.cell? ⟨g, j, none⟩ :=
  World.cell?_setCells_out g vs o w ⟨g, j, none⟩ fun _ _ => .inl h
theorem Hd.cleared {w0 w : World} {g n k : Nat} {d : Array T} {e : Nat → T} (h : Hd w0 w g d) (hi : Is d n e) (hk : k ≤ n) (zs : List Value) : Fst w0 (w.setCells g (k * 4) zs) g k e := by
  have hf := h.first hi
  obtain ⟨a1, a2, a3⟩ := setCells_same g zs (k * 4) w
  refine ⟨fun i hik => ?_, fun j hj hg => (World.heap_setCells_other _ _ _ _ (Nat.lt_of_lt_of_le hj h.size) hg).trans (h.block j hj hg), a1.trans h.os, a2.trans h.tape, a3.trans h.output, by rw [size_setCells]; exact h.size⟩
  have := hf.cells i (by omega)
  unfold Cells4 at *
  rw [cell_setCells g zs _ _ w (by omega), cell_setCells g zs _ _ w (by omega), cell_setCells g zs _ _ w (by omega), cell_setCells g zs _ _ w (by omega)]
  exact this
theorem Hd.spare {w0 w : World} {g n k : Nat} {d : Array T} {e : Nat → T} (h : Hd w0 w g d) (hi : Is d n e) : ∀ j, j < (n - k) * 4 → (w.cell? ⟨g, k * 4 + j, none⟩).isSome = true ∧ w.frozen? ⟨g, k * 4 + j, none⟩ = false := fun j hj => by
  have := h.row (k * 4 + j) (by rw [size_flatK, hi.1]; omega)
  rw [Nat.zero_add] at this
  exact ⟨by rw [this.1]; rfl, this.2⟩
end Go.Proofs.YtedabholcldgbaaGreatDoor.So
