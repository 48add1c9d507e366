/- Rows of texts that a call owns. -/
import Derived.Test.YtniklangimnpfaaGreatDoorVal
import Derived.Test.YtniklangimnpfaaGreatDoorNIn
import Derived.Deep.AppendLies
import Derived.Laws.AppendOwnNone
import Derived.Lib.SmallJoins
import Derived.Deep.Upon
namespace Go.Proofs.YtniklangimnpfaaGreatDoor
open Go.RowKit Go.Deep

theorem own_same {w w' : World} {base : Nat} {e : TypeId} {size : Nat} {v : Value} {n : Nat} {xs : List Value} (h : w.ownsRow base e size v n xs) (hs : ∀ k, v.ownBlock = some k → w'.heap[k]? = w.heap[k]?) : w'.ownsRow base e size v n xs := by
  obtain ⟨h1, h2⟩ := h
  refine ⟨h1, ?_⟩
  rcases h2 with h2 | ⟨g, cap, cur, hv, hg, hh, r⟩
  · exact .inl h2
  · subst hv
    exact .inr ⟨g, cap, cur, rfl, hg, (hs g rfl).trans hh, r⟩
theorem lt_of_getElem? {A : World} {k : Nat} {o : Obj} (h : A.heap[k]? = some o) : k < A.heap.size := (Array.getElem?_eq_some_iff.1 h).1
def strV (l : List (List UInt8)) : List Value := l.map fun c => .string ⟨c.toArray⟩
theorem strV_one (l : List (List UInt8)) : ∀ u ∈ strV l, u.oneCell' = true := by
  intro u h
  simp only [strV, List.mem_map] at h
  obtain ⟨_, _, rfl⟩ := h; rfl
theorem infoStr : (Tryz.prog.info? 9).map (fun i => (i.zero, i.size, i.bytes)) = some (some (.string ⟨#[]⟩), 1, 16) := by kernel_rfl
theorem infoS : ∃ i, Tryz.prog.info? 9 = some i ∧ i.zero = some (.string ⟨#[]⟩) ∧ i.size = 1 ∧ i.bytes = 16 := by
  have h := infoStr
  cases hi : Tryz.prog.info? 9 with
  | none => rw [hi] at h; cases h
  | some i => rw [hi] at h; simp at h; exact ⟨i, rfl, h.1, h.2.1, h.2.2⟩
/-- The slice v owns the texts l, from block B on; below B nothing has turned since w0. -/
structure OwnS (B : Nat) (w0 w : World) (v : Value) (l : List (List UInt8)) : Prop where
  own : w.ownsRow B 9 1 v l.length (strV l)
  below : Below B w0 w
  le : B ≤ w.heap.size
theorem OwnS.start {B : Nat} {w : World} (h : B ≤ w.heap.size) : OwnS B w w (.slice none 0 0) [] := ⟨World.ownsRow_nil _ _ _ _, Below.refl _ _, h⟩
theorem OwnS.next {B : Nat} {w0 w w' : World} {v : Value} {l : List (List UInt8)} (h : OwnS B w0 w v l) (hb : Below w.heap.size w w') : OwnS B w0 w' v l :=
  ⟨own_same h.own fun k hk => hb.block k (h.own.lt k hk).2, h.below.trans (hb.mono h.le), Nat.le_trans h.le hb.size⟩
/-- What the slice is. -/
theorem OwnS.slice {B : Nat} {w0 w : World} {v : Value} {l : List (List UInt8)} (h : OwnS B w0 w v l) : ∃ a c, v = .slice a l.length c ∧ l.length ≤ c ∧ (l = [] ∨ ∃ g, a = some ⟨g, 0, none⟩ ∧ B ≤ g ∧ g < w.heap.size ∧ ∀ j (hj : j < l.length), w.cell? ⟨g, j, none⟩ = some (.string ⟨l[j].toArray⟩)) := by
  have ho := h.own
  rcases h.own.2 with ⟨rfl, e⟩ | ⟨g, cap, cur, rfl, hb, hg, hr⟩
  · exact ⟨none, 0, by rw [e], by omega, .inl (List.length_eq_zero_iff.1 e)⟩
  · refine ⟨_, cap, rfl, hr.1, .inr ⟨g, rfl, hb, lt_of_getElem? hg, fun j hj => ?_⟩⟩
    have := ho.cellAt j (by omega)
    rw [this]
    simp [strV, hj]
/-- What the slice is: nil, or a block's. -/
theorem OwnS.slice2 {B : Nat} {w0 w : World} {v : Value} {l : List (List UInt8)} (h : OwnS B w0 w v l) : (v = .slice none 0 0 ∧ l = []) ∨ ∃ g c, v = .slice (some ⟨g, 0, none⟩) l.length c ∧ l.length ≤ c ∧ B ≤ g ∧ g < w.heap.size ∧ ∀ j (hj : j < l.length), w.cell? ⟨g, j, none⟩ = some (.string ⟨l[j].toArray⟩) := by
  have ho := h.own
  rcases h.own.2 with ⟨rfl, e⟩ | ⟨g, cap, cur, rfl, hb, hg, hr⟩
  · exact .inl ⟨rfl, List.length_eq_zero_iff.1 e⟩
  · refine .inr ⟨g, cap, rfl, hr.1, hb, lt_of_getElem? hg, fun j hj => ?_⟩
    have := ho.cellAt j (by omega)
    rw [this]
    simp [strV, hj]
/-- append of a text that stands in a block. -/
theorem ownS_push {ops : Array Oper} {rest : List Oper} {o : Oper} {a : Act} {Q : Exit → Act → World → Prop} (hgd : o.guard = none) (s x : Operand) (t : TypeId)
    (ho : o.op = .call { callee := .builtin .append, args := #[s, x], argTypes := #[t, t] }) (ht : Tryz.prog.underlying t = some (.slice 9))
    {B : Nat} {w0 w : World} {v : Value} {l : List (List UInt8)} (hs : a.eval s = v) (hb : OwnS B w0 w v l) (u : ByteArray) (c A : Nat)
    (hx : a.eval x = .slice (some ⟨A, 0, none⟩) 1 c) (hA : w.heap[A]? = some (.cells #[.string u] 9 (0, 0))) (hlen : l.length ≤ 1000000000)
    (h : ∀ v' w', OwnS B w0 w' v' (l ++ [u.data.toList]) → w.grownBy w' v.ownBlock → wpList Tryz.prog ops Q rest (a.put o.dst v') w') : wpList Tryz.prog ops Q (o :: rest) a w := by
  obtain ⟨i0, hi0, hz0, hz1, hz2⟩ := infoS
  have hl : (l ++ [u.data.toList]).length = l.length + 1 := by simp
  have hAl := lt_of_getElem? hA
  refine wpList_append_lies _ hgd s x t ho B 9 i0 _ 1 16 ht hi0 hz0 hz1 hz2 rfl (by decide) v l.length (strV l) hs hb.own ⟨A, 0, none⟩ 1 c [.string u] hx (by simp)
    (fun j y hj => World.news_of_block (cs := #[.string u]) (t := 9) (fr := (0, 0)) hA j y (by simpa using hj)) (by intro y hy; simp at hy; subst hy; rfl) (by omega) (by unfold maxLen; omega) (by omega) hb.le w.heap.size rfl ?_
  intro g cap w' ho' hg hat hlt
  refine h _ w' ⟨?_, ?_, ?_⟩ hg
  · rw [hl]
    have e : strV (l ++ [u.data.toList]) = strV l ++ [.string u] := by simp [strV]
    rw [e]; exact ho'
  · exact hb.below.grown hg hb.le fun k hk => (hb.own.lt k hk).1
  · have := hg.size; have := hb.le; omega
/-- append of a stretch of texts. -/
theorem ownS_more {ops : Array Oper} {rest : List Oper} {o : Oper} {a : Act} {Q : Exit → Act → World → Prop} (hgd : o.guard = none) (s x : Operand) (t : TypeId)
    (ho : o.op = .call { callee := .builtin .append, args := #[s, x], argTypes := #[t, t] }) (ht : Tryz.prog.underlying t = some (.slice 9))
    {B : Nat} {w0 w : World} {v : Value} {l : List (List UInt8)} (hs : a.eval s = v) (hb : OwnS B w0 w v l) (xs : List (List UInt8)) (b off n c : Nat)
    (hx : a.eval x = .slice (some ⟨b, off, none⟩) n c) (hn : xs.length = n) (hc : ∀ j u, (strV xs)[j]? = some u → w.cell? ⟨b, off + j, none⟩ = some u) (hlen : l.length + n ≤ 1000000000)
    (h : ∀ v' w', OwnS B w0 w' v' (l ++ xs) → w.grownBy w' v.ownBlock → wpList Tryz.prog ops Q rest (a.put o.dst v') w') : wpList Tryz.prog ops Q (o :: rest) a w := by
  subst hn
  obtain ⟨i0, hi0, hz0, hz1, hz2⟩ := infoS
  refine wpList_append_own _ hgd s x t ho B 9 i0 _ 1 16 ht hi0 hz0 hz1 hz2 rfl (by decide) v l.length (strV l) hs hb.own ⟨b, off, none⟩ xs.length c (strV xs) hx (by simp [strV]) (fun j u hj => ?_) (strV_one xs) (by unfold maxLen; omega) (by omega) hb.le ?_
  · rw [Addr.add_lit]; exact hc j u hj
  · intro v' w' ho' hg _
    refine h v' w' ⟨?_, ?_, ?_⟩ hg
    · rw [List.length_append, show strV (l ++ xs) = strV l ++ strV xs by simp [strV]]; exact ho'
    · exact hb.below.grown hg hb.le fun k hk => (hb.own.lt k hk).1
    · have := hg.size; have := hb.le; omega
/-- append of a stretch, as a step of a region that draws. -/
theorem step_moreS {ops : Array Oper} {o : Oper} {a : Act} {K : Act → World → Prop} {Q : Exit → Act → World → Prop} {E : Prop} {w : World} (hgd : o.guard = none) (s x : Operand) (t : TypeId)
    (ho : o.op = .call { callee := .builtin .append, args := #[s, x], argTypes := #[t, t] }) (ht : Tryz.prog.underlying t = some (.slice 9))
    {B : Nat} {w0 : World} {v : Value} {l : List (List UInt8)} (hs : a.eval s = v) (hb : OwnS B w0 w v l) (xs : List (List UInt8)) (b off n c : Nat)
    (hx : a.eval x = .slice (some ⟨b, off, none⟩) n c) (hn : xs.length = n) (hc : ∀ j u, (strV xs)[j]? = some u → w.cell? ⟨b, off + j, none⟩ = some u) (hlen : l.length + n ≤ 1000000000)
    (h : ∀ v' w', OwnS B w0 w' v' (l ++ xs) → w.grownBy w' v.ownBlock → K (a.put o.dst v') w') : if Region.wanted o (yielded ops a.tmps) = true then Oper.wp Tryz.prog o a w K Q else E := by
  have hw : Region.wanted o (yielded ops a.tmps) = true := by simp [Region.wanted, hgd]
  rw [if_pos hw]
  subst hn
  obtain ⟨i0, hi0, hz0, hz1, hz2⟩ := infoS
  refine wp_append_own _ s x t ho B 9 i0 _ 1 16 ht hi0 hz0 hz1 hz2 rfl (by decide) v l.length (strV l) hs hb.own ⟨b, off, none⟩ xs.length c (strV xs) hx (by simp [strV]) (fun j u hj => ?_) (strV_one xs) (by unfold maxLen; omega) (by omega) hb.le ?_
  · rw [Addr.add_lit]; exact hc j u hj
  · intro v' w' ho' hg _
    refine h v' w' ⟨?_, ?_, ?_⟩ hg
    · rw [List.length_append, show strV (l ++ xs) = strV l ++ strV xs by simp [strV]]; exact ho'
    · exact hb.below.grown hg hb.le fun k hk => (hb.own.lt k hk).1
    · have := hg.size; have := hb.le; omega
/-- append of a text that stands in a block, as a step of a region that draws. -/
theorem step_pushS {ops : Array Oper} {o : Oper} {a : Act} {K : Act → World → Prop} {Q : Exit → Act → World → Prop} {E : Prop} {w : World} (hgd : o.guard = none) (s x : Operand) (t : TypeId)
    (ho : o.op = .call { callee := .builtin .append, args := #[s, x], argTypes := #[t, t] }) (ht : Tryz.prog.underlying t = some (.slice 9))
    {B : Nat} {w0 : World} {v : Value} {l : List (List UInt8)} (hs : a.eval s = v) (hb : OwnS B w0 w v l) (u : ByteArray) (c A : Nat)
    (hx : a.eval x = .slice (some ⟨A, 0, none⟩) 1 c) (hA : w.heap[A]? = some (.cells #[.string u] 9 (0, 0))) (hlen : l.length ≤ 100000000)
    (h : ∀ v' w', OwnS B w0 w' v' (l ++ [u.data.toList]) → w.grownBy w' v.ownBlock → K (a.put o.dst v') w') : if Region.wanted o (yielded ops a.tmps) = true then Oper.wp Tryz.prog o a w K Q else E :=
  step_moreS hgd s x t ho ht hs hb [u.data.toList] A 0 1 c hx rfl (fun j y hj => by
    have := World.news_of_block (cs := #[.string u]) (t := 9) (fr := (0, 0)) hA j y (by simpa [strV] using hj)
    rwa [Addr.add_lit] at this) (by omega) h
/-- append of nothing (a nil slice), as a step of a region that draws. -/
theorem step_noneS {ops : Array Oper} {o : Oper} {a : Act} {K : Act → World → Prop} {Q : Exit → Act → World → Prop} {E : Prop} {w : World} (hgd : o.guard = none) (s x : Operand) (t : TypeId)
    (ho : o.op = .call { callee := .builtin .append, args := #[s, x], argTypes := #[t, t] }) (ht : Tryz.prog.underlying t = some (.slice 9))
    {B : Nat} {w0 : World} {v : Value} {l : List (List UInt8)} (hs : a.eval s = v) (hb : OwnS B w0 w v l)
    (hx : a.eval x = .slice none 0 0) (h : K (a.put o.dst v) w) : if Region.wanted o (yielded ops a.tmps) = true then Oper.wp Tryz.prog o a w K Q else E := by
  have hw : Region.wanted o (yielded ops a.tmps) = true := by simp [Region.wanted, hgd]
  rw [if_pos hw]
  obtain ⟨i0, hi0, _⟩ := infoS
  have hrun := run_append_owned_none (P := Tryz.prog) (w := w) B t o.type 9 i0 1 ht hi0 v l.length (strV l) hb.own
  unfold Oper.wp
  simp [execOp, ho, resolve, invoke, builtin, hs, hx, hrun, Result.andThen]
  exact h
abbrev oY (y : ByteArray) : Obj := .cells #[.string y] 9
abbrev oE : Obj := .cells #[] 9
theorem ha_b {w3 w4 : World} {y : ByteArray} (g4 : (((w3.alloc oE).alloc (oY y)).drew).grownBy w4 (some w3.heap.size)) : w4.heap[w3.heap.size+1]? = some (oY y) := by
  refine (g4.block (w3.heap.size + 1) (by simp) (by simp)).trans ?_
  have := heap_alloc_new (w3.alloc oE) (oY y)
  rw [show (w3.alloc oE).heap.size = w3.heap.size + 1 by simp] at this
  exact this
theorem ha_c {w3 w4 : World} {y : ByteArray} (g4 : (((w3.alloc (oY y)).alloc oE).drew).grownBy w4 (some (w3.heap.size + 1))) : w4.heap[w3.heap.size]? = some (oY y) := by
  refine (g4.block w3.heap.size (by simp; omega) (by simp)).trans ?_
  exact (Below.heap_alloc (w3.alloc (oY y)) oE _ (by simp)).trans (heap_alloc_new w3 (oY y))
theorem hb_b (w3 : World) (y : ByteArray) : (((w3.alloc oE).alloc (oY y)).drew).heap[w3.heap.size+1]? = some (oY y) := by
  have := heap_alloc_new (w3.alloc oE) (oY y)
  rw [show (w3.alloc oE).heap.size = w3.heap.size + 1 by simp] at this
  exact this
theorem hb_c (w3 : World) (y : ByteArray) : (((w3.alloc (oY y)).alloc oE).drew).heap[w3.heap.size]? = some (oY y) :=
  (Below.heap_alloc (w3.alloc (oY y)) oE _ (by simp)).trans (heap_alloc_new w3 (oY y))
end Go.Proofs.YtniklangimnpfaaGreatDoor
