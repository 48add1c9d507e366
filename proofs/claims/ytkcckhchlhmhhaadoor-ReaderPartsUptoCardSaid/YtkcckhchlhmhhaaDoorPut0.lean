/- reader.put: what lies in memory on its way. -/
import Derived.Deep.RegionWith
import Derived.Test.YtkcckhchlhmhhaaDoorClones
import Derived.Test.YtkcckhchlhmhhaaDoorReadPure
namespace Go.Proofs.YtkcckhchlhmhhaaDoor
open Go.RowKit Go.Deep

/-- A form with g as its part at a path. -/
def putF : List Int → Fm → Fm → Fm
  | [], _, g => g
  | i :: p, f, g => .mk f.kd f.nn f.tx (f.ks.modify i.toNat fun x => putF p x g)

def PutEnd (B0 : Nat) (w w' : World) (f : Fm) (e : Ending) : Prop :=
  ∃ u : T, e = .returned u.val ∧ u.form = f ∧ In w' u ∧ (∀ b, On u b → b < B0 ∨ w.heap.size ≤ b) ∧ Below w.heap.size w w'

/-- What lies in memory once the Kids are copied. -/
structure PutW (w W : World) (t g : T) (g0 cap : Nat) : Prop where
  bt : Blk4 W w.heap.size (.int .i64 t.kd) (.int .i64 t.nn) (.string t.tx) (.slice t.ad t.ks.length t.cp)
  bg : Blk4 W (w.heap.size + 1) (.int .i64 g.kd) (.int .i64 g.nn) (.string g.tx) (.slice g.ad g.ks.length g.cp)
  br : Blk4 W (w.heap.size + 2) (.int .i64 0) (.int .i64 0) (.string ⟨#[]⟩) (.slice none 0 0)
  own : W.ownsRow (w.heap.size + 3) 27 4 (.slice (some ⟨g0, 0, none⟩) t.ks.length cap) t.ks.length (cellsT t.ks)
  below : Below w.heap.size w W
  ge : w.heap.size + 3 ≤ g0
  lt : g0 < W.heap.size
theorem PutW.start (w w2 : World) (t g : T) (v : Value) (hB : Below (((w.alloc (.cells #[.int .i64 t.kd, .int .i64 t.nn, .string t.tx, .slice t.ad t.ks.length t.cp] 27)).alloc (.cells #[.int .i64 g.kd, .int .i64 g.nn, .string g.tx, .slice g.ad g.ks.length g.cp] 27)).alloc (.cells #[.int .i64 0, .int .i64 0, .string ⟨#[]⟩, .slice none 0 0] 27)).heap.size
      (((w.alloc (.cells #[.int .i64 t.kd, .int .i64 t.nn, .string t.tx, .slice t.ad t.ks.length t.cp] 27)).alloc (.cells #[.int .i64 g.kd, .int .i64 g.nn, .string g.tx, .slice g.ad g.ks.length g.cp] 27)).alloc (.cells #[.int .i64 0, .int .i64 0, .string ⟨#[]⟩, .slice none 0 0] 27)) w2)
    (ho : w2.ownsRow (w.heap.size + 3) 27 4 v t.ks.length (cellsT t.ks)) (hn : 0 < t.ks.length) : ∃ g0 cap, v = .slice (some ⟨g0, 0, none⟩) t.ks.length cap ∧ PutW w w2 t g g0 cap := by
  obtain ⟨g0, cap, rfl, h1, h2⟩ := ho.form hn
  refine ⟨g0, cap, rfl, ?_, ?_, ?_, ho, ?_, h1, h2⟩
  · refine (hB.block _ (by simp; omega)).trans ?_
    exact ((bel1 _ _).block _ (by simp; omega)).trans (((bel1 _ _).block _ (by simp)).trans (heap_alloc_new w _))
  · refine (hB.block _ (by simp)).trans ?_
    exact ((bel1 _ _).block _ (by simp)).trans (res_new w _ _)
  · refine (hB.block _ (by simp)).trans ?_
    have := res_new (w.alloc (.cells #[.int .i64 t.kd, .int .i64 t.nn, .string t.tx, .slice t.ad t.ks.length t.cp] 27)) (.cells #[.int .i64 g.kd, .int .i64 g.nn, .string g.tx, .slice g.ad g.ks.length g.cp] 27) (.cells #[.int .i64 0, .int .i64 0, .string ⟨#[]⟩, .slice none 0 0] 27)
    simpa using this
  · exact upB (upB (bel2 w _ _) (bel1 _ _) (Nat.le_refl _)) hB (Nat.le_refl _)
theorem PutW.next {w W W' : World} {t g : T} {g0 cap : Nat} (h : PutW w W t g g0 cap) (hB : Below W.heap.size W W') : PutW w W' t g g0 cap :=
  ⟨h.bt.below hB, h.bg.below hB, h.br.below hB, own_same h.own (fun k hk => hB.block k (by simp [Value.ownBlock] at hk; have := h.lt; omega)), upB h.below hB (Nat.le_refl _), h.ge, Nat.lt_of_lt_of_le h.lt hB.size⟩
theorem PutW.cells {w W : World} {t g : T} {g0 cap : Nat} (h : PutW w W t g g0 cap) (j : Nat) (hj : j < t.ks.length) :
    W.cell? ⟨g0, j * 4, none⟩ = some (.int .i64 t.ks[j].kd) ∧ W.cell? ⟨g0, j * 4 + 1, none⟩ = some (.int .i64 t.ks[j].nn) ∧ W.cell? ⟨g0, j * 4 + 2, none⟩ = some (.string t.ks[j].tx) ∧ W.cell? ⟨g0, j * 4 + 3, none⟩ = some (.slice t.ks[j].ad t.ks[j].ks.length t.ks[j].cp) ∧
    W.frozen? ⟨g0, j * 4, none⟩ = false ∧ W.frozen? ⟨g0, j * 4 + 1, none⟩ = false ∧ W.frozen? ⟨g0, j * 4 + 2, none⟩ = false ∧ W.frozen? ⟨g0, j * 4 + 3, none⟩ = false := by
  have hc := cellsT_get t.ks j hj
  refine ⟨?_, ?_, ?_, ?_, h.own.frozenAt _, h.own.frozenAt _, h.own.frozenAt _, h.own.frozenAt _⟩
  · rw [h.own.cellAt _ (by omega)]; exact hc.1
  · rw [h.own.cellAt _ (by omega)]; exact hc.2.1
  · rw [h.own.cellAt _ (by omega)]; exact hc.2.2.1
  · rw [h.own.cellAt _ (by omega)]; exact hc.2.2.2

theorem cellsT_set : ∀ (ts : List T) (j : Nat) (_ : j < ts.length) (u : T),
    ((((cellsT ts).set (j * 4) (.int .i64 u.kd)).set (j * 4 + 1) (.int .i64 u.nn)).set (j * 4 + 2) (.string u.tx)).set (j * 4 + 3) (.slice u.ad u.ks.length u.cp) = cellsT (ts.set j u)
  | x :: xs, 0, _, u => by simp [cellsT]
  | x :: xs, j + 1, h, u => by
    have ih := cellsT_set xs j (by simpa using h) u
    have e : ∀ (y : T) (ys : List T), cellsT (y :: ys) = .int .i64 y.kd :: .int .i64 y.nn :: .string y.tx :: .slice y.ad y.ks.length y.cp :: cellsT ys := fun y ys => by simp [cellsT]
    rw [List.set_cons_succ, e, e, ← ih, show (j + 1) * 4 = j * 4 + 1 + 1 + 1 + 1 by omega, show j * 4 + 1 + 1 + 1 + 1 + 1 = j * 4 + 1 + 1 + 1 + 1 + 1 from rfl]
    rw [show j * 4 + 1 + 1 + 1 + 1 + 2 = (j * 4 + 2) + 1 + 1 + 1 + 1 by omega, show j * 4 + 1 + 1 + 1 + 1 + 3 = (j * 4 + 3) + 1 + 1 + 1 + 1 by omega]
    simp only [List.set_cons_succ]
abbrev layAt (W : World) (b o : Nat) (u0 u1 u2 u3 : Value) : World := (((W.setCell ⟨b, o, none⟩ u0).setCell ⟨b, o + 1, none⟩ u1).setCell ⟨b, o + 2, none⟩ u2).setCell ⟨b, o + 3, none⟩ u3
theorem layAt_other {W : World} {b o k : Nat} (h : k ≠ b) (u0 u1 u2 u3 : Value) : (layAt W b o u0 u1 u2 u3).heap[k]? = W.heap[k]? := by
  unfold layAt
  rw [Below.heap_setCell _ _ _ _ h, Below.heap_setCell _ _ _ _ h, Below.heap_setCell _ _ _ _ h, Below.heap_setCell _ _ _ _ h]
theorem PutW.store {w W : World} {t g : T} {g0 cap : Nat} (h : PutW w W t g g0 cap) (j : Nat) (hj : j < t.ks.length) (u : T) (hiu : In W u) (hou : ∀ b, On u b → b ≠ g0) :
    let W4 := layAt W g0 (j * 4) (.int .i64 u.kd) (.int .i64 u.nn) (.string u.tx) (.slice u.ad u.ks.length u.cp)
    Blk4 W4 w.heap.size (.int .i64 t.kd) (.int .i64 t.nn) (.string t.tx) (.slice t.ad t.ks.length t.cp) ∧ Blk4 W4 (w.heap.size + 2) (.int .i64 0) (.int .i64 0) (.string ⟨#[]⟩) (.slice none 0 0) ∧
      W4.ownsRow (w.heap.size + 3) 27 4 (.slice (some ⟨g0, 0, none⟩) t.ks.length cap) t.ks.length (cellsT (t.ks.set j u)) ∧ Below w.heap.size w W4 ∧ In W4 u := by
  have hge := h.ge
  refine ⟨(layAt_other (by omega) _ _ _ _).trans h.bt, (layAt_other (by omega) _ _ _ _).trans h.br, ?_, ?_, ?_⟩
  · have h4 := ((((h.own.stored (j * 4) (.int .i64 u.kd)).1.stored (j * 4 + 1) (.int .i64 u.nn)).1.stored (j * 4 + 2) (.string u.tx)).1.stored (j * 4 + 3) (.slice u.ad u.ks.length u.cp)).1
    rw [cellsT_set _ _ hj] at h4
    exact h4
  · have hb : w.heap.size ≤ g0 := by omega
    exact (((h.below.setCell (p := ⟨g0, j * 4, none⟩) hb _).setCell (p := ⟨g0, j * 4 + 1, none⟩) hb _).setCell (p := ⟨g0, j * 4 + 2, none⟩) hb _).setCell (p := ⟨g0, j * 4 + 3, none⟩) hb _
  · exact hiu.same _ (Nat.lt_succ_self _) fun b hb => layAt_other (hou b hb) _ _ _ _
theorem put_done {w W4 : World} {t u : T} {g0 cap j : Nat} (own : W4.ownsRow (w.heap.size + 3) 27 4 (.slice (some ⟨g0, 0, none⟩) t.ks.length cap) t.ks.length (cellsT (t.ks.set j u)))
    (hB : Below w.heap.size w W4) (hin : In w t) (hu : In W4 u) (hou : ∀ b, On u b → b < w.heap.size ∨ w.heap.size + 3 ≤ b) (hge : w.heap.size + 3 ≤ g0) (hlen : t.ks.length ≤ 1000000) (v v0 v1 v2 v3 : Value) :
    In (lay4 (W4.setCell ⟨w.heap.size, 3, none⟩ v) (w.heap.size + 2) v0 v1 v2 v3) (T.mk t.kd t.nn t.tx (some ⟨g0, 0, none⟩) cap (t.ks.set j u)) := by
  have hks : ∀ x ∈ t.ks.set j u, In W4 x ∧ ∀ b, On x b → b < w.heap.size ∨ w.heap.size + 3 ≤ b := fun x hx => by
    rcases List.mem_or_eq_of_mem_set hx with hx | rfl
    · have := hin.inL.kids x hx
      exact ⟨this.below hB, fun b hb => Or.inl (this.lt hb)⟩
    · exact ⟨hu, hou⟩
  have hl : (t.ks.set j u).length = t.ks.length := by simp
  have own' : W4.ownsRow (w.heap.size + 3) 27 4 (.slice (some ⟨g0, 0, none⟩) (t.ks.set j u).length cap) (t.ks.set j u).length (cellsT (t.ks.set j u)) := by rw [hl]; exact own
  have h3 := kids_in own' (fun x hx => (hks x hx).1) (by omega)
  have h4 : In W4 (T.mk t.kd t.nn t.tx (some ⟨g0, 0, none⟩) cap (t.ks.set j u)) := In.mk ⟨hin.ok.kd, hin.ok.nn, hin.ok.tx, h3.ok.le, h3.ok.cp⟩ h3.inL
  refine h4.same _ (Nat.lt_succ_self _) fun b hb => ?_
  have hne : b ≠ w.heap.size ∧ b ≠ w.heap.size + 2 := by
    cases hb with
    | here h _ =>
      injection h with h
      injection h with h _ _
      omega
    | kid hx h =>
      have := (hks _ hx).2 b h
      omega
  rw [Below.heap_setCell _ _ _ _ hne.2, Below.heap_setCell _ _ _ _ hne.2, Below.heap_setCell _ _ _ _ hne.2, Below.heap_setCell _ _ _ _ hne.2, Below.heap_setCell _ _ _ _ hne.1]

theorem put_form {t u : T} {g : Fm} {j : Nat} {p : List Int} (hj : j < t.ks.length) (hu : u.form = putF p t.ks[j].form g) (a : Option Addr) (cap : Nat) : (T.mk t.kd t.nn t.tx a cap (t.ks.set j u)).form = putF ((j : Int) :: p) t.form g := by
  simp only [T.form, putF, T.forms_map, T.form_kd, T.form_nn, T.form_tx, T.form_ks, Int.toNat_natCast]
  congr 1
  apply List.ext_getElem?
  intro i
  rw [List.getElem?_modify, List.getElem?_map, List.getElem?_map, List.getElem?_set]
  by_cases h : j = i
  · subst h
    simp [hj, hu]
  · simp [h]
theorem put_on {B0 : Nat} {w w2 : World} {t u : T} {g0 cap j : Nat} (ht : ∀ b, On t b → b < B0) (hou : ∀ b, On u b → b < B0 ∨ w2.heap.size ≤ b) (hg : w.heap.size ≤ g0) (hw : w.heap.size ≤ w2.heap.size) (b : Nat)
    (h : On (T.mk t.kd t.nn t.tx (some ⟨g0, 0, none⟩) cap (t.ks.set j u)) b) : b < B0 ∨ w.heap.size ≤ b := by
  cases h with
  | here h _ =>
    injection h with h
    injection h with h _ _
    omega
  | kid hx h =>
    rcases List.mem_or_eq_of_mem_set hx with hx | rfl
    · exact Or.inl (ht b (.kid hx h))
    · rcases hou b h with h | h
      · exact Or.inl h
      · omega

end Go.Proofs.YtkcckhchlhmhhaaDoor
