/- The scanner's add: a form behind those of the innermost open list. -/
import Derived.Test.YtedabholcldgbaaGreatDoorScan
namespace Go.Proofs.YtedabholcldgbaaGreatDoor
open Go.RowKit Go.Deep

def Added (base : Nat) (w w' : World) (R : Nat) (s : ByteArray) (pos : Nat) (ov : Value) (L : List Lv) (ts : List T) (tight : Bool) : Prop :=
  Below base w w' ∧ ∃ v', Scan base w' R s pos ov (L ++ [(v', ts)]) tight
theorem set_last {α : Type} (xs : List α) (y z : α) : (xs ++ [y]).set xs.length z = xs ++ [z] := by simp

section
variable {base : Nat} {w W w1 : World} {R : Nat} {s : ByteArray} {pos : Nat} {g cap : Nat} {L : List Lv} {v : Value} {ts : List T} {tight : Bool} {t : T} {gg c' H : Nat}
/-- What the appends have in common. -/
structure Grew (base : Nat) (w W w1 : World) (R : Nat) (s : ByteArray) (pos : Nat) (g cap : Nat) (L : List Lv) (v : Value) (ts : List T) (tight : Bool) (gg c' : Nat) : Prop where
  h : Scan base w R s pos (.slice (some ⟨g, 0, none⟩) (L.length + 1) cap) (L ++ [(v, ts)]) tight
  hW : Below w.heap.size w W
  hgrow : W.grownBy w1 v.ownBlock
  hat : v.ownBlock = some gg ∨ w.heap.size ≤ gg
theorem Grew.ne (k : Grew base w W w1 R s pos g cap L v ts tight gg c') : some g ≠ v.ownBlock ∧ g < w.heap.size ∧ gg ≠ g := by
  have hnd := k.h.nodup
  have hll := (k.h.live_lt g (by simp [live, Value.ownBlock])).2
  rw [live_snoc] at hnd
  obtain ⟨_, _, nd3⟩ := List.nodup_append.1 hnd
  have h1 : some g ≠ v.ownBlock := fun e => nd3 g (by simp [live, Value.ownBlock]) g (by rw [← e]; simp) rfl
  refine ⟨h1, hll, fun e => ?_⟩
  subst e
  rcases k.hat with h | h
  · exact h1 h.symm
  · omega
theorem Grew.open1 (k : Grew base w W w1 R s pos g cap L v ts tight gg c') : w1.ownsRow base 22 1 (.slice (some ⟨g, 0, none⟩) (L.length + 1) cap) (L.length + 1) (L.map (·.1) ++ [v]) := by
  have h := k.h.rows
  simp only [List.length_append, List.length_cons, List.length_nil, List.map_append, List.map_cons, List.map_nil] at h
  refine own_same h fun b hb => ?_
  have e : b = g := by simpa [Value.ownBlock] using hb.symm
  subst e
  exact (k.hgrow.block b (Nat.lt_of_lt_of_le k.ne.2.1 k.hW.size) k.ne.1).trans (k.hW.block b k.ne.2.1)
theorem Grew.same (k : Grew base w W w1 R s pos g cap L v ts tight gg c') : ∀ b, b < w.heap.size → some b ≠ v.ownBlock → w1.heap[b]? = w.heap[b]? := fun b hb hne =>
  (k.hgrow.block b (Nat.lt_of_lt_of_le hb k.hW.size) hne).trans (k.hW.block b hb)
theorem Grew.size (k : Grew base w W w1 R s pos g cap L v ts tight gg c') : w.heap.size ≤ w1.heap.size := Nat.le_trans k.hW.size k.hgrow.size
theorem Grew.below (k : Grew base w W w1 R s pos g cap L v ts tight gg c') : Below base w w1 :=
  ⟨k.hgrow.os.trans k.hW.os, k.hgrow.tape.trans k.hW.tape, k.hgrow.output.trans k.hW.output, k.size, fun b hb => k.same b (Nat.lt_of_lt_of_le hb k.h.hw) fun e => by
    have := (k.h.live_lt b (by rw [live_snoc, ← e]; simp)).1; omega⟩
theorem Grew.ggb (k : Grew base w W w1 R s pos g cap L v ts tight gg c') : base ≤ gg := by
  rcases k.hat with e | e
  · exact (k.h.live_lt gg (by rw [live_snoc, e]; simp)).1
  · exact Nat.le_trans k.h.hw e
theorem Grew.gb (k : Grew base w W w1 R s pos g cap L v ts tight gg c') : base ≤ g := (k.h.live_lt g (by simp [live, Value.ownBlock])).1

/-- The form's cells were appended, then the slice was stored. -/
theorem Grew.one (k : Grew base w W w1 R s pos g cap L v ts tight gg c') (ht : In w t) (hoff : ∀ b, On t b → b ∉ live R (.slice (some ⟨g, 0, none⟩) (L.length + 1) cap) (L ++ [(v, ts)])) (hbt : ∀ b, On t b → base ≤ b)
    (hown : w1.ownsRow base 29 4 (.slice (some ⟨gg, 0, none⟩) (ts.length + 1) c') (ts.length + 1) (cellsT (ts ++ [t]))) :
    Added base w (w1.setCell ⟨g, L.length, none⟩ (.slice (some ⟨gg, 0, none⟩) (ts.length + 1) c')) R s pos (.slice (some ⟨g, 0, none⟩) (L.length + 1) cap) L (ts ++ [t]) tight := by
  refine ⟨k.below.setCell (p := ⟨g, L.length, none⟩) k.gb _, _, k.h.top ht hoff hbt (gg := gg) (c' := c') ?_ ?_ ?_ k.hat (by simpa using k.size)⟩
  · exact ownsRow_setCell_other hown (by simp [Value.ownBlock]; exact k.ne.2.2) _
  · have h := (k.open1.stored L.length (.slice (some ⟨gg, 0, none⟩) (ts.length + 1) c')).1
    rw [show (L.map (·.1) ++ [v]).set L.length (.slice (some ⟨gg, 0, none⟩) (ts.length + 1) c') = L.map (·.1) ++ [.slice (some ⟨gg, 0, none⟩) (ts.length + 1) c'] by
      have := set_last (L.map (·.1)) v (.slice (some ⟨gg, 0, none⟩) (ts.length + 1) c')
      rwa [List.length_map] at this] at h
    exact h
  · intro b hb hg hv
    rw [Below.heap_setCell _ _ _ _ hg]
    exact k.same b hb hv

theorem set4 (xs : List Value) (n : Nat) (hn : xs.length = n * 4) (a b c d a' b' c' d' : Value) :
    ((((xs ++ [a, b, c, d]).set (n * 4) a').set (n * 4 + 1) b').set (n * 4 + 2) c').set (n * 4 + 3) d' = xs ++ [a', b', c', d'] := by
  rw [← hn]
  simp
theorem tail4 {w1 : World} {base gg c' n : Nat} {xs : List Value} {a b c d : Value} (hl : xs.length = n * 4) (h : w1.ownsRow base 29 4 (.slice (some ⟨gg, 0, none⟩) (n + 1) c') (n + 1) (xs ++ [a, b, c, d])) :
    w1.cell? ⟨gg, n * 4, none⟩ = some a ∧ w1.cell? ⟨gg, n * 4 + 1, none⟩ = some b ∧ w1.cell? ⟨gg, n * 4 + 2, none⟩ = some c ∧ w1.cell? ⟨gg, n * 4 + 3, none⟩ = some d ∧
    w1.frozen? ⟨gg, n * 4, none⟩ = false ∧ w1.frozen? ⟨gg, n * 4 + 1, none⟩ = false ∧ w1.frozen? ⟨gg, n * 4 + 2, none⟩ = false ∧ w1.frozen? ⟨gg, n * 4 + 3, none⟩ = false := by
  refine ⟨?_, ?_, ?_, ?_, h.frozenAt _, h.frozenAt _, h.frozenAt _, h.frozenAt _⟩
  · rw [h.cellAt _ (by omega), ← hl]; simp
  · rw [h.cellAt _ (by omega), ← hl]; simp
  · rw [h.cellAt _ (by omega), ← hl]; simp
  · rw [h.cellAt _ (by omega), ← hl]; simp
/-- A zero was appended, the slice was stored, then the form's cells. -/
theorem Grew.two (k : Grew base w W w1 R s pos g cap L v ts tight gg c') (ht : In w t) (hoff : ∀ b, On t b → b ∉ live R (.slice (some ⟨g, 0, none⟩) (L.length + 1) cap) (L ++ [(v, ts)])) (hbt : ∀ b, On t b → base ≤ b) {z0 z1 z2 z3 : Value}
    (hown : w1.ownsRow base 29 4 (.slice (some ⟨gg, 0, none⟩) (ts.length + 1) c') (ts.length + 1) (cellsT ts ++ [z0, z1, z2, z3])) :
    Added base w (((((w1.setCell ⟨g, L.length, none⟩ (.slice (some ⟨gg, 0, none⟩) (ts.length + 1) c')).setCell ⟨gg, ts.length * 4, none⟩ (.int .i64 t.kd)).setCell ⟨gg, ts.length * 4 + 1, none⟩ (.int .i64 t.nn)).setCell ⟨gg, ts.length * 4 + 2, none⟩ (.string t.tx)).setCell ⟨gg, ts.length * 4 + 3, none⟩ (.slice t.ad t.ks.length t.cp))
      R s pos (.slice (some ⟨g, 0, none⟩) (L.length + 1) cap) L (ts ++ [t]) tight := by
  have hb := k.ggb
  refine ⟨((((k.below.setCell (p := ⟨g, L.length, none⟩) k.gb _).setCell (p := ⟨gg, ts.length * 4, none⟩) hb _).setCell (p := ⟨gg, ts.length * 4 + 1, none⟩) hb _).setCell (p := ⟨gg, ts.length * 4 + 2, none⟩) hb _).setCell (p := ⟨gg, ts.length * 4 + 3, none⟩) hb _, _, k.h.top ht hoff hbt (gg := gg) (c' := c') ?_ ?_ ?_ k.hat (by simpa using k.size)⟩
  · have h0 := ownsRow_setCell_other (a := ⟨g, L.length, none⟩) hown (by simp [Value.ownBlock]; exact k.ne.2.2) (.slice (some ⟨gg, 0, none⟩) (ts.length + 1) c')
    have h4 := ((((h0.stored (ts.length * 4) (.int .i64 t.kd)).1.stored (ts.length * 4 + 1) (.int .i64 t.nn)).1.stored (ts.length * 4 + 2) (.string t.tx)).1.stored (ts.length * 4 + 3) (.slice t.ad t.ks.length t.cp)).1
    rw [set4 _ _ (cellsT_length ts)] at h4
    rw [cellsT_append]
    exact h4
  · have h := (k.open1.stored L.length (.slice (some ⟨gg, 0, none⟩) (ts.length + 1) c')).1
    rw [show (L.map (·.1) ++ [v]).set L.length (.slice (some ⟨gg, 0, none⟩) (ts.length + 1) c') = L.map (·.1) ++ [.slice (some ⟨gg, 0, none⟩) (ts.length + 1) c'] by
      have := set_last (L.map (·.1)) v (.slice (some ⟨gg, 0, none⟩) (ts.length + 1) c')
      rwa [List.length_map] at this] at h
    have hne : ∀ o : Nat, (Value.slice (some ⟨g, 0, none⟩) (L.length + 1) cap).ownBlock ≠ some (⟨gg, o, none⟩ : Addr).block := fun o => by
      simp [Value.ownBlock]; exact fun e => k.ne.2.2 e.symm
    exact ownsRow_setCell_other (ownsRow_setCell_other (ownsRow_setCell_other (ownsRow_setCell_other h (hne _) _) (hne _) _) (hne _) _) (hne _) _
  · intro b hb hg hv
    have hgg : b ≠ gg := by
      intro e; subst e
      rcases k.hat with e | e
      · exact hv e.symm
      · omega
    rw [Below.heap_setCell _ _ _ _ hgg, Below.heap_setCell _ _ _ _ hgg, Below.heap_setCell _ _ _ _ hgg, Below.heap_setCell _ _ _ _ hgg, Below.heap_setCell _ _ _ _ hg]
    exact k.same b hb hv
end
end Go.Proofs.YtedabholcldgbaaGreatDoor
