/- The document's own put: what lies in memory on its way. -/
import Derived.Test.YtkcckhchlhmhhaaDoorRAt
import Derived.Test.YtkcckhchlhmhhaaDoorPut0
namespace Go.Proofs.YtkcckhchlhmhhaaDoor
open Go.RowKit Go.Deep

/-- A form with memory of its own. -/
def FreshEnd (w w' : World) (f : Fm) (e : Ending) : Prop := ∃ u : T, e = .returned u.val ∧ u.form = f ∧ In w' u ∧ (∀ b, On u b → w.heap.size ≤ b) ∧ Below w.heap.size w w'
/-- Own of a form with Kids, part for part. -/
def OwnK (w w' : World) (t : T) (e : Ending) : Prop :=
  ∃ (g0 cap : Nat) (us : List T), e = .returned (.agg #[.int .i64 t.kd, .int .i64 t.nn, .string t.tx, .slice (some ⟨g0, 0, none⟩) t.ks.length cap]) ∧ us.length = t.ks.length ∧ us.map T.form = t.ks.map T.form ∧
    (∀ x ∈ us, In w' x) ∧ (∀ x ∈ us, ∀ b, On x b → w.heap.size ≤ b ∧ b ≠ g0) ∧ w'.ownsRow w.heap.size 27 4 (.slice (some ⟨g0, 0, none⟩) t.ks.length cap) t.ks.length (cellsT us) ∧ Below w.heap.size w w'
theorem ownK_of {w w' : World} {t : T} {e : Ending} (h : OwnEnd w w' t.form e) (hn : 0 < t.ks.length) : OwnK w w' t e := by
  obtain ⟨u, rfl, hu, hi, hf, hc, ho, hB⟩ := h
  rw [T.form_of t, T.form_of u] at hu
  injection hu with h1 h2 h3 h4
  have hl : u.ks.length = t.ks.length := by have := congrArg List.length h4; simpa using this
  obtain ⟨g0, cap, e, _, _⟩ := ho.form (by omega)
  injection e with e1 e2 e3
  refine ⟨g0, u.cp, u.ks, ?_, hl, h4, fun x hx => hi.inL.kids x hx, fun x hx b hb => ⟨hf b (.kid hx hb), fun e => ?_⟩, ?_, hB⟩
  · rw [T.val, h1, h2, h3, e1, hl]
  · have := hc x hx b hb
    rw [e1] at this
    exact this (by simp [Value.ownBlock, e])
  · rw [e1, hl] at ho; exact ho
structure RPut (w W : World) (t g : T) (us : List T) (g0 cap : Nat) : Prop where
  bt : Blk4 W w.heap.size (.int .i64 t.kd) (.int .i64 t.nn) (.string t.tx) (.slice (some ⟨g0, 0, none⟩) t.ks.length cap)
  bg : Blk4 W (w.heap.size + 1) (.int .i64 g.kd) (.int .i64 g.nn) (.string g.tx) (.slice g.ad g.ks.length g.cp)
  br : Blk4 W (w.heap.size + 1 + 1) (.int .i64 0) (.int .i64 0) (.string ⟨#[]⟩) (.slice none 0 0)
  own : W.ownsRow (w.heap.size + 3) 27 4 (.slice (some ⟨g0, 0, none⟩) t.ks.length cap) t.ks.length (cellsT us)
  len : us.length = t.ks.length
  forms : us.map T.form = t.ks.map T.form
  ins : ∀ x ∈ us, In W x
  clean : ∀ x ∈ us, ∀ b, On x b → w.heap.size + 3 ≤ b ∧ b ≠ g0
  below : Below w.heap.size w W
  ge : w.heap.size + 3 ≤ g0
  lt : g0 < W.heap.size
theorem RPut.next {w W W' : World} {t g : T} {us : List T} {g0 cap : Nat} (h : RPut w W t g us g0 cap) (hB : Below W.heap.size W W') : RPut w W' t g us g0 cap :=
  ⟨h.bt.below hB, h.bg.below hB, h.br.below hB, own_same h.own (fun k hk => hB.block k (h.own.lt k hk).2), h.len, h.forms, fun x hx => (h.ins x hx).below hB, h.clean, upB h.below hB (Nat.le_refl _), h.ge, Nat.lt_of_lt_of_le h.lt hB.size⟩
theorem RPut.start {w w2 : World} {t g : T} {us : List T} {g0 cap : Nat} (hP : Pub3 w (((w.alloc (boxO t)).alloc (boxO g)).alloc zeroO) t g) (hB : Below (((w.alloc (boxO t)).alloc (boxO g)).alloc zeroO).heap.size (((w.alloc (boxO t)).alloc (boxO g)).alloc zeroO) w2)
    (hl : us.length = t.ks.length) (hf : us.map T.form = t.ks.map T.form) (hi : ∀ x ∈ us, In w2 x) (hc : ∀ x ∈ us, ∀ b, On x b → (((w.alloc (boxO t)).alloc (boxO g)).alloc zeroO).heap.size ≤ b ∧ b ≠ g0)
    (ho : w2.ownsRow (((w.alloc (boxO t)).alloc (boxO g)).alloc zeroO).heap.size 27 4 (.slice (some ⟨g0, 0, none⟩) t.ks.length cap) t.ks.length (cellsT us)) :
    RPut w (lay4 w2 w.heap.size (.int .i64 t.kd) (.int .i64 t.nn) (.string t.tx) (.slice (some ⟨g0, 0, none⟩) t.ks.length cap)) t g us g0 cap := by
  have hz : (((w.alloc (boxO t)).alloc (boxO g)).alloc zeroO).heap.size = w.heap.size + 3 := by simp
  rw [hz] at hc ho
  have hlt := ho.lt g0 (by simp [Value.ownBlock])
  have h2 := hP.next hB
  have hs : ∀ b, b ≠ w.heap.size → (lay4 w2 w.heap.size (.int .i64 t.kd) (.int .i64 t.nn) (.string t.tx) (.slice (some ⟨g0, 0, none⟩) t.ks.length cap)).heap[b]? = w2.heap[b]? := fun b hb => by
    rw [Below.heap_setCell _ _ _ _ hb, Below.heap_setCell _ _ _ _ hb, Below.heap_setCell _ _ _ _ hb, Below.heap_setCell _ _ _ _ hb]
  refine ⟨h2.bt.set _ _ _ _, (hs _ (by omega)).trans h2.bg, (hs _ (by omega)).trans h2.br, own_same ho fun k hk => hs k ?_, hl, hf, fun x hx => (hi x hx).same _ (Nat.lt_succ_self _) fun b hb => hs b ?_, hc, below_lay4 h2.below (Nat.le_refl _) _ _ _ _, hlt.1, by simpa using hlt.2⟩
  · have := (ho.lt k hk).1; omega
  · have := (hc x hx b hb).1; omega
theorem RPut.cells {w W : World} {t g : T} {us : List T} {g0 cap : Nat} (h : RPut w W t g us g0 cap) (j : Nat) (hj : j < us.length) :
    W.cell? ⟨g0, j * 4, none⟩ = some (.int .i64 us[j].kd) ∧ W.cell? ⟨g0, j * 4 + 1, none⟩ = some (.int .i64 us[j].nn) ∧ W.cell? ⟨g0, j * 4 + 2, none⟩ = some (.string us[j].tx) ∧ W.cell? ⟨g0, j * 4 + 3, none⟩ = some (.slice us[j].ad us[j].ks.length us[j].cp) ∧
    W.frozen? ⟨g0, j * 4, none⟩ = false ∧ W.frozen? ⟨g0, j * 4 + 1, none⟩ = false ∧ W.frozen? ⟨g0, j * 4 + 2, none⟩ = false ∧ W.frozen? ⟨g0, j * 4 + 3, none⟩ = false := by
  have hc := cellsT_get us j hj
  have hl := h.len
  refine ⟨?_, ?_, ?_, ?_, h.own.frozenAt _, h.own.frozenAt _, h.own.frozenAt _, h.own.frozenAt _⟩
  · rw [h.own.cellAt _ (by omega)]; exact hc.1
  · rw [h.own.cellAt _ (by omega)]; exact hc.2.1
  · rw [h.own.cellAt _ (by omega)]; exact hc.2.2.1
  · rw [h.own.cellAt _ (by omega)]; exact hc.2.2.2
/-- Behind the store. -/
structure RDone (w W : World) (t : T) (us : List T) (g0 cap : Nat) : Prop where
  bt : Blk4 W w.heap.size (.int .i64 t.kd) (.int .i64 t.nn) (.string t.tx) (.slice (some ⟨g0, 0, none⟩) t.ks.length cap)
  br : Blk4 W (w.heap.size + 1 + 1) (.int .i64 0) (.int .i64 0) (.string ⟨#[]⟩) (.slice none 0 0)
  own : W.ownsRow (w.heap.size + 3) 27 4 (.slice (some ⟨g0, 0, none⟩) t.ks.length cap) t.ks.length (cellsT us)
  len : us.length = t.ks.length
  ins : ∀ x ∈ us, In W x
  fresh : ∀ x ∈ us, ∀ b, On x b → w.heap.size + 3 ≤ b
  below : Below w.heap.size w W
theorem RPut.store {w W : World} {t g : T} {us : List T} {g0 cap : Nat} (h : RPut w W t g us g0 cap) (j : Nat) (hj : j < us.length) (u : T) (hiu : In W u) (hou : ∀ b, On u b → w.heap.size + 3 ≤ b ∧ b ≠ g0) :
    RDone w (layAt W g0 (j * 4) (.int .i64 u.kd) (.int .i64 u.nn) (.string u.tx) (.slice u.ad u.ks.length u.cp)) t (us.set j u) g0 cap := by
  have hge := h.ge
  have all : ∀ x ∈ us.set j u, In W x ∧ ∀ b, On x b → w.heap.size + 3 ≤ b ∧ b ≠ g0 := fun x hx => by
    rcases List.mem_or_eq_of_mem_set hx with hx | rfl
    · exact ⟨h.ins x hx, h.clean x hx⟩
    · exact ⟨hiu, hou⟩
  refine ⟨(layAt_other (by omega) _ _ _ _).trans h.bt, (layAt_other (by omega) _ _ _ _).trans h.br, ?_, by simpa using h.len, fun x hx => (all x hx).1.same _ (Nat.lt_succ_self _) fun b hb => layAt_other ((all x hx).2 b hb).2 _ _ _ _, fun x hx b hb => ((all x hx).2 b hb).1, ?_⟩
  · have h4 := ((((h.own.stored (j * 4) (.int .i64 u.kd)).1.stored (j * 4 + 1) (.int .i64 u.nn)).1.stored (j * 4 + 2) (.string u.tx)).1.stored (j * 4 + 3) (.slice u.ad u.ks.length u.cp)).1
    rw [cellsT_set _ _ hj] at h4
    exact h4
  · have hb : w.heap.size ≤ g0 := by omega
    exact (((h.below.setCell (p := ⟨g0, j * 4, none⟩) hb _).setCell (p := ⟨g0, j * 4 + 1, none⟩) hb _).setCell (p := ⟨g0, j * 4 + 2, none⟩) hb _).setCell (p := ⟨g0, j * 4 + 3, none⟩) hb _
theorem rput_done {w W : World} {t : T} {us : List T} {g0 cap : Nat} (h : RDone w W t us g0 cap) (hin : In w t) (hl : t.ks.length ≤ 1000000) {f : Fm} (hf : (T.mk t.kd t.nn t.tx (some ⟨g0, 0, none⟩) cap us).form = f) (v0 v1 v2 v3 : Value) :
    FreshEnd w (lay4 W (w.heap.size + 1 + 1) v0 v1 v2 v3) f (.returned (.agg #[.int .i64 t.kd, .int .i64 t.nn, .string t.tx, .slice (some ⟨g0, 0, none⟩) t.ks.length cap])) := by
  have ho := h.own
  rw [← h.len] at ho
  have h3 := kids_in ho h.ins (by rw [h.len]; exact hl)
  have h4 : In W (T.mk t.kd t.nn t.tx (some ⟨g0, 0, none⟩) cap us) := In.mk ⟨hin.ok.kd, hin.ok.nn, hin.ok.tx, h3.ok.le, h3.ok.cp⟩ h3.inL
  have hon : ∀ b, On (T.mk t.kd t.nn t.tx (some ⟨g0, 0, none⟩) cap us) b → w.heap.size + 3 ≤ b := fun b hb => by
    cases hb with
    | here h' _ =>
      injection h' with h'
      injection h' with h' _ _
      subst h'
      exact (h.own.lt g0 (by simp [Value.ownBlock])).1
    | kid hx hb => exact h.fresh _ hx b hb
  refine ⟨T.mk t.kd t.nn t.tx (some ⟨g0, 0, none⟩) cap us, by simp [T.val, T.kd, T.nn, T.tx, T.ad, T.cp, T.ks, h.len], hf, h4.same _ (Nat.lt_succ_self _) fun b hb => ?_, fun b hb => by have := hon b hb; omega, below_lay4 h.below (by omega) _ _ _ _⟩
  have hne : b ≠ w.heap.size + 1 + 1 := by have := hon b hb; omega
  rw [Below.heap_setCell _ _ _ _ hne, Below.heap_setCell _ _ _ _ hne, Below.heap_setCell _ _ _ _ hne, Below.heap_setCell _ _ _ _ hne]
theorem rput_form {t u : T} {us : List T} {g : Fm} {j : Nat} {p : List Int} (hf : us.map T.form = t.ks.map T.form) (hj : j < us.length) (hu : u.form = putF p us[j].form g) (a : Option Addr) (cap : Nat) :
    (T.mk t.kd t.nn t.tx a cap (us.set j u)).form = putF ((j : Int) :: p) t.form g := by
  have h1 := put_form (t := T.mk t.kd t.nn t.tx a cap us) (u := u) (g := g) (j := j) (p := p) hj hu a cap
  have h2 : (T.mk t.kd t.nn t.tx a cap us).form = t.form := by rw [T.form_of t]; simp only [T.form, T.forms_map, hf]
  rw [h2] at h1
  exact h1
end Go.Proofs.YtkcckhchlhmhhaaDoor
