/- Forms that a call owns, carried from append to append. -/
import Derived.Test.YtedabholcldgbaaGreatDoorClones
import Derived.Test.YtedabholcldgbaaGreatDoorBoxO
import Derived.Deep.AppendLies
import Derived.Test.YtedabholcldgbaaGreatDoorSame
namespace Go.Proofs.YtedabholcldgbaaGreatDoor
open Go.RowKit Go.Deep

/-- The slice v owns the forms us, from block B on; below B nothing has turned since w0. -/
structure Own4 (B : Nat) (w0 w : World) (v : Value) (us : List T) : Prop where
  own : w.ownsRow B 29 4 v us.length (cellsT us)
  below : Below B w0 w
  le : B ≤ w.heap.size
theorem Own4.start {B : Nat} {w : World} (h : B ≤ w.heap.size) : Own4 B w w (.slice none 0 0) [] := ⟨World.ownsRow_nil _ _ _ _, Below.refl _ _, h⟩
theorem Own4.next {B : Nat} {w0 w w' : World} {v : Value} {us : List T} (h : Own4 B w0 w v us) (hb : Below w.heap.size w w') : Own4 B w0 w' v us :=
  ⟨own_same h.own fun k hk => hb.block k (h.own.lt k hk).2, h.below.trans (hb.mono h.le), Nat.le_trans h.le hb.size⟩
theorem cellsT_oneC (ts : List T) : ∀ u ∈ cellsT ts, u.oneCell' = true := by
  intro u h
  simp only [cellsT, List.mem_flatMap] at h
  obtain ⟨t, _, h⟩ := h
  simp only [List.mem_cons, List.not_mem_nil, or_false] at h
  rcases h with rfl | rfl | rfl | rfl <;> rfl
/-- append of a form. Nothing that stood in another block turns. -/
theorem own4_push {ops : Array Oper} {rest : List Oper} {o : Oper} {a : Act} {Q : Exit → Act → World → Prop} (hgd : o.guard = none) (s x : Operand) (t : TypeId)
    (ho : o.op = .call { callee := .builtin .append, args := #[s, x], argTypes := #[t, t] }) (ht : Tryz.prog.underlying t = some (.slice 29))
    {B : Nat} {w0 w : World} {v : Value} {us : List T} (hs : a.eval s = v) (hb : Own4 B w0 w v us) (u : T) (c A : Nat)
    (hx : a.eval x = .slice (some ⟨A, 0, none⟩) 1 c) (hA : w.heap.size = A) (hlen : us.length ≤ 1000000)
    (h : ∀ v' w', Own4 B w0 w' v' (us ++ [u]) → (w.alloc (boxO u)).grownBy w' v.ownBlock → (v'.ownBlock = v.ownBlock ∨ ∀ g, v'.ownBlock = some g → w.heap.size < g) → wpList Tryz.prog ops Q rest (a.put o.dst v') w') : wpList Tryz.prog ops Q (o :: rest) a (w.alloc (boxO u)) := by
  subst hA
  obtain ⟨i0, hi0, hz0, hz1, hz2⟩ := info_parts info27
  have hown := hb.own.alloc (boxO u)
  have hl : (us ++ [u]).length = us.length + 1 := by simp
  refine wpList_append_lies _ hgd s x t ho B 29 i0 _ 4 56 ht hi0 hz0 hz1 hz2 rfl (by decide) v us.length (cellsT us) hs hown ⟨w.heap.size, 0, none⟩ 1 c (cellsT [u]) hx (by simp [cellsT])
    (fun j y hy => World.news_of_block (cs := #[.int .i64 u.kd, .int .i64 u.nn, .string u.tx, .slice u.ad u.ks.length u.cp]) (t := 29) (fr := (0, 0)) (heap_alloc_new w _) j y (by simpa [cellsT] using hy)) (cellsT_oneC [u]) (by omega) (by unfold maxLen; omega) (by omega) (by simp; have := hb.le; omega) (w.heap.size + 1) (by simp) ?_
  intro g cap w' ho' hg hat hlt
  refine h _ w' ⟨?_, ?_, ?_⟩ hg ?_
  · rw [hl, cellsT_append]; exact ho'
  · exact (hb.below.alloc hb.le _).grown hg (by simp; have := hb.le; omega) fun k hk => (hb.own.lt k hk).1
  · have := hg.size; have := hb.le; simp at *; omega
  · rcases hat with hat | hat
    · exact .inl (by rw [hat]; rfl)
    · exact .inr fun g' hg' => by simp [Value.ownBlock] at hg'; omega
theorem own4_slice {B : Nat} {w0 w : World} {v : Value} {us : List T} (h : Own4 B w0 w v us) (hin : ∀ t ∈ us, In w t) (hl : us.length ≤ 1000000) : ∃ va vc, v = .slice va us.length vc ∧ In w (T.list va vc us) := by
  have ho := h.own
  rcases h.own.2 with ⟨rfl, e⟩ | ⟨g, cap, cur, rfl, _⟩
  · rw [e] at ho
    have hus : us = [] := List.length_eq_zero_iff.1 e
    subst hus
    exact ⟨none, 0, rfl, list_in (by simp [InL]) (Nat.le_refl _) (Nat.zero_le _)⟩
  · exact ⟨_, _, rfl, kids_in h.own hin hl⟩
end Go.Proofs.YtedabholcldgbaaGreatDoor
