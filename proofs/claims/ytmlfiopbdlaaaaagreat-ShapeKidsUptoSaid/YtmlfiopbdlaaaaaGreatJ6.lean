/- Several texts, one behind the other. -/
import Derived.Test.YtmlfiopbdlaaaaaGreatShF
import Derived.Test.YtmlfiopbdlaaaaaGreatVal
import Derived.Test.YtmlfiopbdlaaaaaGreatNIn
import Derived.Deep.AppendLies
import Derived.Laws.AppendOwnNone
import Derived.Lib.SmallJoins
import Derived.Deep.Upon
import Derived.Test.YtmlfiopbdlaaaaaGreatNRes
namespace Go.Proofs.YtmlfiopbdlaaaaaGreat
open Go.RowKit Go.Deep
theorem Asked.kidS {n : Nat} {t u : T} (h : Asked (n + 1) t) (hk : t.form.kd = 3) (hu : u ∈ t.ks) : Asked n u := by
  have hm : u.form ∈ t.form.kids := by
    rw [Fm.kids, if_pos hk, T.form_ks]; exact List.mem_map_of_mem hu
  have h1 := h.kid hk hu
  exact ⟨by have := Fm.kids_lt hm; have := h.small; omega, h1.good, h1.few⟩
theorem good_word {f : Fm} (h : fieldsF f = true) (hk : f.kd = 1) : f.tx.size ≤ 1000 := by
  rw [fieldsF_eq, Bool.and_eq_true] at h
  have h := h.1
  have e : aloneF f = ((f.nn == 0) && f.ks.isEmpty && wordB f.tx) := by
    unfold aloneF
    rw [if_neg (by rw [hk]; decide), if_pos hk]
  rw [e, Bool.and_eq_true] at h
  have h := h.2
  simp only [wordB, Bool.and_eq_true, decide_eq_true_eq] at h
  omega
theorem valid_asked {t : T} (h : validF t.form = true) : Asked (SizeOf.sizeOf t.form + 1) t := by
  simp only [validF, Bool.and_eq_true, decide_eq_true_eq] at h
  exact ⟨Nat.lt_succ_self _, h.2, h.1.1⟩
end Go.Proofs.YtmlfiopbdlaaaaaGreat

namespace Go.Proofs.YtmlfiopbdlaaaaaGreat
open Go.RowKit Go.Deep
theorem own_same {w w' : World} {base : Nat} {e : TypeId} {size : Nat} {v : Value} {n : Nat} {xs : List Value} (h : w.ownsRow base e size v n xs) (hs : ∀ k, v.ownBlock = some k → w'.heap[k]? = w.heap[k]?) : w'.ownsRow base e size v n xs := by
  obtain ⟨h1, h2⟩ := h
  refine ⟨h1, ?_⟩
  rcases h2 with h2 | ⟨g, cap, cur, hv, hg, hh, r⟩
  · exact .inl h2
  · subst hv
    exact .inr ⟨g, cap, cur, rfl, hg, (hs g rfl).trans hh, r⟩
theorem lt_of_getElem? {A : World} {k : Nat} {o : Obj} (h : A.heap[k]? = some o) : k < A.heap.size := (Array.getElem?_eq_some_iff.1 h).1
def strV (l : List (List UInt8)) : List Value := l.map fun c => .string ⟨c.toArray⟩
theorem strV_one (l : List (List UInt8)) : ∀ u ∈ strV l, u.oneCell' = true := by
  intro u h
  simp only [strV, List.mem_map] at h
  obtain ⟨_, _, rfl⟩ := h; rfl
theorem infoStr : (Tryz.prog.info? 9).map (fun i => (i.zero, i.size, i.bytes)) = some (some (.string ⟨#[]⟩), 1, 16) := by kernel_rfl
theorem infoS : ∃ i, Tryz.prog.info? 9 = some i ∧ i.zero = some (.string ⟨#[]⟩) ∧ i.size = 1 ∧ i.bytes = 16 := by
  have h := infoStr
  cases hi : Tryz.prog.info? 9 with
  | none => rw [hi] at h; cases h
  | some i => rw [hi] at h; simp at h; exact ⟨i, rfl, h.1, h.2.1, h.2.2⟩
structure OwnS (B : Nat) (w0 w : World) (v : Value) (l : List (List UInt8)) : Prop where
  own : w.ownsRow B 9 1 v l.length (strV l)
  below : Below B w0 w
  le : B ≤ w.heap.size
theorem OwnS.start {B : Nat} {w : World} (h : B ≤ w.heap.size) : OwnS B w w (.slice none 0 0) [] := ⟨World.ownsRow_nil _ _ _ _, Below.refl _ _, h⟩
theorem OwnS.next {B : Nat} {w0 w w' : World} {v : Value} {l : List (List UInt8)} (h : OwnS B w0 w v l) (hb : Below w.heap.size w w') : OwnS B w0 w' v l :=
  ⟨own_same h.own fun k hk => hb.block k (h.own.lt k hk).2, h.below.trans (hb.mono h.le), Nat.le_trans h.le hb.size⟩
theorem OwnS.slice {B : Nat} {w0 w : World} {v : Value} {l : List (List UInt8)} (h : OwnS B w0 w v l) : ∃ a c, v = .slice a l.length c ∧ l.length ≤ c ∧ (l = [] ∨ ∃ g, a = some ⟨g, 0, none⟩ ∧ B ≤ g ∧ g < w.heap.size ∧ ∀ j (hj : j < l.length), w.cell? ⟨g, j, none⟩ = some (.string ⟨l[j].toArray⟩)) := by
  have ho := h.own
  rcases h.own.2 with ⟨rfl, e⟩ | ⟨g, cap, cur, rfl, hb, hg, hr⟩
  · exact ⟨none, 0, by rw [e], by omega, .inl (List.length_eq_zero_iff.1 e)⟩
  · refine ⟨_, cap, rfl, hr.1, .inr ⟨g, rfl, hb, lt_of_getElem? hg, fun j hj => ?_⟩⟩
    have := ho.cellAt j (by omega)
    rw [this]
    simp [strV, hj]
theorem OwnS.slice2 {B : Nat} {w0 w : World} {v : Value} {l : List (List UInt8)} (h : OwnS B w0 w v l) : (v = .slice none 0 0 ∧ l = []) ∨ ∃ g c, v = .slice (some ⟨g, 0, none⟩) l.length c ∧ l.length ≤ c ∧ B ≤ g ∧ g < w.heap.size ∧ ∀ j (hj : j < l.length), w.cell? ⟨g, j, none⟩ = some (.string ⟨l[j].toArray⟩) := by
  have ho := h.own
  rcases h.own.2 with ⟨rfl, e⟩ | ⟨g, cap, cur, rfl, hb, hg, hr⟩
  · exact .inl ⟨rfl, List.length_eq_zero_iff.1 e⟩
  · refine .inr ⟨g, cap, rfl, hr.1, hb, lt_of_getElem? hg, fun j hj => ?_⟩
    have := ho.cellAt j (by omega)
    rw [this]
    simp [strV, hj]
theorem ownS_push {ops : Array Oper} {rest : List Oper} {o : Oper} {a : Act} {Q : Exit → Act → World → Prop} (hgd : o.guard = none) (s x : Operand) (t : TypeId)
    (ho : o.op = .call { callee := .builtin .append, args := #[s, x], argTypes := #[t, t] }) (ht : Tryz.prog.underlying t = some (.slice 9))
    {B : Nat} {w0 w : World} {v : Value} {l : List (List UInt8)} (hs : a.eval s = v) (hb : OwnS B w0 w v l) (u : ByteArray) (c A : Nat)
    (hx : a.eval x = .slice (some ⟨A, 0, none⟩) 1 c) (hA : w.heap[A]? = some (.cells #[.string u] 9 (0, 0))) (hlen : l.length ≤ 1000000000)
    (h : ∀ v' w', OwnS B w0 w' v' (l ++ [u.data.toList]) → w.grownBy w' v.ownBlock → wpList Tryz.prog ops Q rest (a.put o.dst v') w') : wpList Tryz.prog ops Q (o :: rest) a w := by
  obtain ⟨i0, hi0, hz0, hz1, hz2⟩ := infoS
  have hl : (l ++ [u.data.toList]).length = l.length + 1 := by simp
  have hAl := lt_of_getElem? hA
  refine wpList_append_lies _ hgd s x t ho B 9 i0 _ 1 16 ht hi0 hz0 hz1 hz2 rfl (by decide) v l.length (strV l) hs hb.own ⟨A, 0, none⟩ 1 c [.string u] hx (by simp)
    (fun j y hj => World.news_of_block (cs := #[.string u]) (t := 9) (fr := (0, 0)) hA j y (by simpa using hj)) (by intro y hy; simp at hy; subst hy; rfl) (by omega) (by unfold maxLen; omega) (by omega) hb.le w.heap.size rfl ?_
  intro g cap w' ho' hg hat hlt
  refine h _ w' ⟨?_, ?_, ?_⟩ hg
  · rw [hl]
    have e : strV (l ++ [u.data.toList]) = strV l ++ [.string u] := by simp [strV]
    rw [e]; exact ho'
  · exact hb.below.grown hg hb.le fun k hk => (hb.own.lt k hk).1
  · have := hg.size; have := hb.le; omega
theorem ownS_more {ops : Array Oper} {rest : List Oper} {o : Oper} {a : Act} {Q : Exit → Act → World → Prop} (hgd : o.guard = none) (s x : Operand) (t : TypeId)
    (ho : o.op = .call { callee := .builtin .append, args := #[s, x], argTypes := #[t, t] }) (ht : Tryz.prog.underlying t = some (.slice 9))
    {B : Nat} {w0 w : World} {v : Value} {l : List (List UInt8)} (hs : a.eval s = v) (hb : OwnS B w0 w v l) (xs : List (List UInt8)) (b off n c : Nat)
    (hx : a.eval x = .slice (some ⟨b, off, none⟩) n c) (hn : xs.length = n) (hc : ∀ j u, (strV xs)[j]? = some u → w.cell? ⟨b, off + j, none⟩ = some u) (hlen : l.length + n ≤ 1000000000)
    (h : ∀ v' w', OwnS B w0 w' v' (l ++ xs) → w.grownBy w' v.ownBlock → wpList Tryz.prog ops Q rest (a.put o.dst v') w') : wpList Tryz.prog ops Q (o :: rest) a w := by
  subst hn
  obtain ⟨i0, hi0, hz0, hz1, hz2⟩ := infoS
  refine wpList_append_own _ hgd s x t ho B 9 i0 _ 1 16 ht hi0 hz0 hz1 hz2 rfl (by decide) v l.length (strV l) hs hb.own ⟨b, off, none⟩ xs.length c (strV xs) hx (by simp [strV]) (fun j u hj => ?_) (strV_one xs) (by unfold maxLen; omega) (by omega) hb.le ?_
  · rw [Addr.add_lit]; exact hc j u hj
  · intro v' w' ho' hg _
    refine h v' w' ⟨?_, ?_, ?_⟩ hg
    · rw [List.length_append, show strV (l ++ xs) = strV l ++ strV xs by simp [strV]]; exact ho'
    · exact hb.below.grown hg hb.le fun k hk => (hb.own.lt k hk).1
    · have := hg.size; have := hb.le; omega
theorem step_moreS {ops : Array Oper} {o : Oper} {a : Act} {K : Act → World → Prop} {Q : Exit → Act → World → Prop} {E : Prop} {w : World} (hgd : o.guard = none) (s x : Operand) (t : TypeId)
    (ho : o.op = .call { callee := .builtin .append, args := #[s, x], argTypes := #[t, t] }) (ht : Tryz.prog.underlying t = some (.slice 9))
    {B : Nat} {w0 : World} {v : Value} {l : List (List UInt8)} (hs : a.eval s = v) (hb : OwnS B w0 w v l) (xs : List (List UInt8)) (b off n c : Nat)
    (hx : a.eval x = .slice (some ⟨b, off, none⟩) n c) (hn : xs.length = n) (hc : ∀ j u, (strV xs)[j]? = some u → w.cell? ⟨b, off + j, none⟩ = some u) (hlen : l.length + n ≤ 1000000000)
    (h : ∀ v' w', OwnS B w0 w' v' (l ++ xs) → w.grownBy w' v.ownBlock → K (a.put o.dst v') w') : if Region.wanted o (yielded ops a.tmps) = true then Oper.wp Tryz.prog o a w K Q else E := by
  have hw : Region.wanted o (yielded ops a.tmps) = true := by simp [Region.wanted, hgd]
  rw [if_pos hw]
  subst hn
  obtain ⟨i0, hi0, hz0, hz1, hz2⟩ := infoS
  refine wp_append_own _ s x t ho B 9 i0 _ 1 16 ht hi0 hz0 hz1 hz2 rfl (by decide) v l.length (strV l) hs hb.own ⟨b, off, none⟩ xs.length c (strV xs) hx (by simp [strV]) (fun j u hj => ?_) (strV_one xs) (by unfold maxLen; omega) (by omega) hb.le ?_
  · rw [Addr.add_lit]; exact hc j u hj
  · intro v' w' ho' hg _
    refine h v' w' ⟨?_, ?_, ?_⟩ hg
    · rw [List.length_append, show strV (l ++ xs) = strV l ++ strV xs by simp [strV]]; exact ho'
    · exact hb.below.grown hg hb.le fun k hk => (hb.own.lt k hk).1
    · have := hg.size; have := hb.le; omega
theorem step_pushS {ops : Array Oper} {o : Oper} {a : Act} {K : Act → World → Prop} {Q : Exit → Act → World → Prop} {E : Prop} {w : World} (hgd : o.guard = none) (s x : Operand) (t : TypeId)
    (ho : o.op = .call { callee := .builtin .append, args := #[s, x], argTypes := #[t, t] }) (ht : Tryz.prog.underlying t = some (.slice 9))
    {B : Nat} {w0 : World} {v : Value} {l : List (List UInt8)} (hs : a.eval s = v) (hb : OwnS B w0 w v l) (u : ByteArray) (c A : Nat)
    (hx : a.eval x = .slice (some ⟨A, 0, none⟩) 1 c) (hA : w.heap[A]? = some (.cells #[.string u] 9 (0, 0))) (hlen : l.length ≤ 100000000)
    (h : ∀ v' w', OwnS B w0 w' v' (l ++ [u.data.toList]) → w.grownBy w' v.ownBlock → K (a.put o.dst v') w') : if Region.wanted o (yielded ops a.tmps) = true then Oper.wp Tryz.prog o a w K Q else E :=
  step_moreS hgd s x t ho ht hs hb [u.data.toList] A 0 1 c hx rfl (fun j y hj => by
    have := World.news_of_block (cs := #[.string u]) (t := 9) (fr := (0, 0)) hA j y (by simpa [strV] using hj)
    rwa [Addr.add_lit] at this) (by omega) h
theorem step_noneS {ops : Array Oper} {o : Oper} {a : Act} {K : Act → World → Prop} {Q : Exit → Act → World → Prop} {E : Prop} {w : World} (hgd : o.guard = none) (s x : Operand) (t : TypeId)
    (ho : o.op = .call { callee := .builtin .append, args := #[s, x], argTypes := #[t, t] }) (ht : Tryz.prog.underlying t = some (.slice 9))
    {B : Nat} {w0 : World} {v : Value} {l : List (List UInt8)} (hs : a.eval s = v) (hb : OwnS B w0 w v l)
    (hx : a.eval x = .slice none 0 0) (h : K (a.put o.dst v) w) : if Region.wanted o (yielded ops a.tmps) = true then Oper.wp Tryz.prog o a w K Q else E := by
  have hw : Region.wanted o (yielded ops a.tmps) = true := by simp [Region.wanted, hgd]
  rw [if_pos hw]
  obtain ⟨i0, hi0, _⟩ := infoS
  have hrun := run_append_owned_none (P := Tryz.prog) (w := w) B t o.type 9 i0 1 ht hi0 v l.length (strV l) hb.own
  unfold Oper.wp
  simp [execOp, ho, resolve, invoke, builtin, hs, hx, hrun, Result.andThen]
  exact h
abbrev oY (y : ByteArray) : Obj := .cells #[.string y] 9
abbrev oE : Obj := .cells #[] 9
theorem ha_b {w3 w4 : World} {y : ByteArray} (g4 : (((w3.alloc oE).alloc (oY y)).drew).grownBy w4 (some w3.heap.size)) : w4.heap[w3.heap.size+1]? = some (oY y) := by
  refine (g4.block (w3.heap.size + 1) (by simp) (by simp)).trans ?_
  have := heap_alloc_new (w3.alloc oE) (oY y)
  rw [show (w3.alloc oE).heap.size = w3.heap.size + 1 by simp] at this
  exact this
theorem ha_c {w3 w4 : World} {y : ByteArray} (g4 : (((w3.alloc (oY y)).alloc oE).drew).grownBy w4 (some (w3.heap.size + 1))) : w4.heap[w3.heap.size]? = some (oY y) := by
  refine (g4.block w3.heap.size (by simp; omega) (by simp)).trans ?_
  exact (Below.heap_alloc (w3.alloc (oY y)) oE _ (by simp)).trans (heap_alloc_new w3 (oY y))
theorem hb_b (w3 : World) (y : ByteArray) : (((w3.alloc oE).alloc (oY y)).drew).heap[w3.heap.size+1]? = some (oY y) := by
  have := heap_alloc_new (w3.alloc oE) (oY y)
  rw [show (w3.alloc oE).heap.size = w3.heap.size + 1 by simp] at this
  exact this
theorem hb_c (w3 : World) (y : ByteArray) : (((w3.alloc (oY y)).alloc oE).drew).heap[w3.heap.size]? = some (oY y) :=
  (Below.heap_alloc (w3.alloc (oY y)) oE _ (by simp)).trans (heap_alloc_new w3 (oY y))
end Go.Proofs.YtmlfiopbdlaaaaaGreat

namespace Go.Proofs.YtmlfiopbdlaaaaaGreat
open Go.RowKit Go.Deep
def intV (l : List Int) : List Value := l.map fun c => .int .i64 c
theorem infoIn0 : (Tryz.prog.info? 3).map (fun i => (i.zero, i.size, i.bytes)) = some (some (.int .i64 0), 1, 8) := by kernel_rfl
theorem infoIn : ∃ i, Tryz.prog.info? 3 = some i ∧ i.zero = some (.int .i64 0) ∧ i.size = 1 ∧ i.bytes = 8 := by
  have h := infoIn0
  cases hi : Tryz.prog.info? 3 with
  | none => rw [hi] at h; cases h
  | some i => rw [hi] at h; simp at h; exact ⟨i, rfl, h.1, h.2.1, h.2.2⟩
structure OwnI (B : Nat) (w0 w : World) (v : Value) (l : List Int) : Prop where
  own : w.ownsRow B 3 1 v l.length (intV l)
  below : Below B w0 w
  le : B ≤ w.heap.size
theorem OwnI.start {B : Nat} {w : World} (h : B ≤ w.heap.size) : OwnI B w w (.slice none 0 0) [] := ⟨World.ownsRow_nil _ _ _ _, Below.refl _ _, h⟩
theorem OwnI.next {B : Nat} {w0 w w' : World} {v : Value} {l : List Int} (h : OwnI B w0 w v l) (hb : Below w.heap.size w w') : OwnI B w0 w' v l :=
  ⟨own_same h.own fun k hk => hb.block k (h.own.lt k hk).2, h.below.trans (hb.mono h.le), Nat.le_trans h.le hb.size⟩
theorem OwnI.slice {B : Nat} {w0 w : World} {v : Value} {l : List Int} (h : OwnI B w0 w v l) : ∃ a c, v = .slice a l.length c ∧ l.length ≤ c ∧ (l = [] ∨ ∃ g, a = some ⟨g, 0, none⟩ ∧ B ≤ g ∧ g < w.heap.size ∧ ∀ j (hj : j < l.length), w.cell? ⟨g, j, none⟩ = some (.int .i64 l[j])) := by
  have ho := h.own
  rcases h.own.2 with ⟨rfl, e⟩ | ⟨g, cap, cur, rfl, hb, hg, hr⟩
  · exact ⟨none, 0, by rw [e], by omega, .inl (List.length_eq_zero_iff.1 e)⟩
  · refine ⟨_, cap, rfl, hr.1, .inr ⟨g, rfl, hb, lt_of_getElem? hg, fun j hj => ?_⟩⟩
    have := ho.cellAt j (by omega)
    rw [this]
    simp [intV, hj]
theorem OwnI.slice2 {B : Nat} {w0 w : World} {v : Value} {l : List Int} (h : OwnI B w0 w v l) : (v = .slice none 0 0 ∧ l = []) ∨ ∃ g c, v = .slice (some ⟨g, 0, none⟩) l.length c ∧ l.length ≤ c ∧ B ≤ g ∧ g < w.heap.size ∧ ∀ j (hj : j < l.length), w.cell? ⟨g, j, none⟩ = some (.int .i64 l[j]) := by
  have ho := h.own
  rcases h.own.2 with ⟨rfl, e⟩ | ⟨g, cap, cur, rfl, hb, hg, hr⟩
  · exact .inl ⟨rfl, List.length_eq_zero_iff.1 e⟩
  · refine .inr ⟨g, cap, rfl, hr.1, hb, lt_of_getElem? hg, fun j hj => ?_⟩
    have := ho.cellAt j (by omega)
    rw [this]
    simp [intV, hj]
theorem ownI_push {ops : Array Oper} {rest : List Oper} {o : Oper} {a : Act} {Q : Exit → Act → World → Prop} (hgd : o.guard = none) (s x : Operand) (t : TypeId)
    (ho : o.op = .call { callee := .builtin .append, args := #[s, x], argTypes := #[t, t] }) (ht : Tryz.prog.underlying t = some (.slice 3))
    {B : Nat} {w0 w : World} {v : Value} {l : List Int} (hs : a.eval s = v) (hb : OwnI B w0 w v l) (u : Int) (c A : Nat)
    (hx : a.eval x = .slice (some ⟨A, 0, none⟩) 1 c) (hA : w.heap[A]? = some (.cells #[.int .i64 u] 3 (0, 0))) (hlen : l.length ≤ 1000000000)
    (h : ∀ v' w', OwnI B w0 w' v' (l ++ [u]) → w.grownBy w' v.ownBlock → wpList Tryz.prog ops Q rest (a.put o.dst v') w') : wpList Tryz.prog ops Q (o :: rest) a w := by
  obtain ⟨i0, hi0, hz0, hz1, hz2⟩ := infoIn
  have hl : (l ++ [u]).length = l.length + 1 := by simp
  have hAl := lt_of_getElem? hA
  refine wpList_append_lies _ hgd s x t ho B 3 i0 _ 1 8 ht hi0 hz0 hz1 hz2 rfl (by decide) v l.length (intV l) hs hb.own ⟨A, 0, none⟩ 1 c [.int .i64 u] hx (by simp)
    (fun j y hj => World.news_of_block (cs := #[.int .i64 u]) (t := 3) (fr := (0, 0)) hA j y (by simpa using hj)) (by intro y hy; simp at hy; subst hy; rfl) (by omega) (by unfold maxLen; omega) (by omega) hb.le w.heap.size rfl ?_
  intro g cap w' ho' hg hat hlt
  refine h _ w' ⟨?_, ?_, ?_⟩ hg
  · rw [hl]
    have e : intV (l ++ [u]) = intV l ++ [.int .i64 u] := by simp [intV]
    rw [e]; exact ho'
  · exact hb.below.grown hg hb.le fun k hk => (hb.own.lt k hk).1
  · have := hg.size; have := hb.le; omega
theorem OwnI.lower {B B' : Nat} {w0 w0' w : World} {v : Value} {l : List Int} (h : OwnI B w0 w v l) (hB : B' ≤ B) (hb : Below B' w0' w) : OwnI B' w0' w v l :=
  ⟨⟨h.own.1, h.own.2.imp id (fun ⟨g, cap, cur, hv, hg, hh, r⟩ => ⟨g, cap, cur, hv, Nat.le_trans hB hg, hh, r⟩)⟩, hb, Nat.le_trans hB h.le⟩
end Go.Proofs.YtmlfiopbdlaaaaaGreat

namespace Go.Proofs.YtmlfiopbdlaaaaaGreat
open Go.RowKit Go.Deep
theorem rlet_ok : BOk 174 letB := by
  intro b w
  by_cases h1 : 97 ≤ b
  · by_cases h2 : b ≤ 122
    · have e : letB b = true := by simp [letB, h1, h2]
      rw [e]
      go_enter Tryz.func174, Tryz.ntmps174
      go_wp2
      go_ret
      exact ⟨rfl, rfl⟩
    · have e : letB b = false := by simp [letB]; omega
      have g3 : 65 ≤ b := by omega
      have g4 : decide (b ≤ 90) = false := by simp; omega
      rw [e]
      go_enter Tryz.func174, Tryz.ntmps174
      go_wp2
      go_ret
      exact ⟨rfl, rfl⟩
  · have g1 : decide (97 ≤ b) = false := by simpa using h1
    by_cases h3 : 65 ≤ b
    · by_cases h4 : b ≤ 90
      · have e : letB b = true := by simp [letB, h3, h4]
        rw [e]
        go_enter Tryz.func174, Tryz.ntmps174
        go_wp2
        go_ret
        exact ⟨rfl, rfl⟩
      · have e : letB b = false := by simp [letB, h1, h4]
        have g4 : decide (b ≤ 90) = false := by simpa using h4
        rw [e]
        go_enter Tryz.func174, Tryz.ntmps174
        go_wp2
        go_ret
        exact ⟨rfl, rfl⟩
    · have e : letB b = false := by simp [letB, h1, h3]
      have g3 : decide (65 ≤ b) = false := by simpa using h3
      rw [e]
      go_enter Tryz.func174, Tryz.ntmps174
      go_wp2
      go_ret
      exact ⟨rfl, rfl⟩
theorem nameB_parts {s : ByteArray} (h0 : 0 < s.size) (h1 : s.size ≤ 20) (h2 : letB (s[0].toNat : Int) = true) (h3 : inB s.data.toList [] rowB = false) : nameB s = allB idB s := by
  have hh : (s.data.toList.headD 0).toNat = s[0].toNat := by
    have : s.data.toList[0]? = some s[0] := by rw [List.getElem?_eq_getElem (by simpa using h0)]; rfl
    rw [← List.head?_eq_getElem?] at this
    rw [List.headD_eq_head?_getD, this]; rfl
  rw [name_row, h3]; unfold identB; rw [hh, h2]; simp [h1, show ¬ s.size = 0 by omega]
theorem nameB_head {s : ByteArray} (h0 : 0 < s.size) (h2 : letB (s[0].toNat : Int) = false) : nameB s = false := by
  have hh : (s.data.toList.headD 0).toNat = s[0].toNat := by
    have : s.data.toList[0]? = some s[0] := by rw [List.getElem?_eq_getElem (by simpa using h0)]; rfl
    rw [← List.head?_eq_getElem?] at this
    rw [List.headD_eq_head?_getD, this]; rfl
  rw [name_row]; unfold identB; rw [hh, h2]; simp
theorem nameB_row {s : ByteArray} (h3 : inB s.data.toList [] rowB = true) : nameB s = false := by rw [name_row, h3]; simp
set_option maxRecDepth 100000 in
set_option maxHeartbeats 1000000 in
theorem rIsName_any (s : ByteArray) (hs : s.size ≤ maxLen) (w : World) :
    Calls Tryz.prog 118 #[.string s] w fun e w' => e = .returned (.bool (nameB s)) ∧ w = w' := by
  unfold maxLen at hs
  obtain ⟨r, hr⟩ : ∃ r, nameB s = r := ⟨_, rfl⟩
  rw [hr]
  by_cases h2 : s.size = 0
  · obtain rfl : false = r := by rw [← hr]; unfold nameB identB; simp [h2]
    have g2 := toList_nil h2
    have g3 : s = ⟨#[]⟩ := by rcases s with ⟨⟨l⟩⟩; have : l = [] := by simpa [ByteArray.size] using h2
                              subst this; rfl
    subst g3
    clear hr
    go_enter Tryz.func118, Tryz.ntmps118
    go_wp2_with fail
    go_ret
    exact ⟨rfl, rfl⟩
  have h0 : 0 < s.size := by omega
  have g1' := toList_ne h2
  have g2 : (s.toList == []) = false := by simpa using g1'
  have g3 : s.toList.isEmpty = false := by simpa using g1'
  by_cases h1 : s.size ≤ 20
  · have g1 : decide ((20 : Int) < (s.size : Int)) = false := by simp; omega
    have HL := Lib.hid (rlet_ok (s[0].toNat : Int) w)
    cases h3 : letB (s[0].toNat : Int) with
    | false =>
      rw [h3] at HL
      obtain rfl : false = r := by rw [← hr]; exact (nameB_head h0 h3).symm
      clear hr h3
      go_enter Tryz.func118, Tryz.ntmps118
      go_wp2_with (go_at_call 174; refine (HL.out).mono ?_; rintro e w2 ⟨rfl, rfl⟩)
      go_ret
      exact ⟨rfl, rfl⟩
    | true =>
      rw [h3] at HL
      have HI : Hid (∀ R : ByteArray, Nat.ble R.size 1000000 = true → R.data.toList = rowB → Calls Tryz.prog 32 #[.string s, .string R] w fun e w' => e = .returned (.bool (inB s.data.toList [] rowB)) ∧ w = w') := Lib.hid fun R hR e => by
        have := in_any s R (Nat.le_of_ble_eq_true hR) w
        rw [e] at this
        exact this
      cases h4 : inB s.data.toList [] rowB with
      | true =>
        rw [h4] at HI
        obtain rfl : false = r := by rw [← hr]; exact (nameB_row h4).symm
        clear hr h3 h4
        go_enter Tryz.func118, Tryz.ntmps118
        go_wp2_with (first
          | (go_at_call 174; refine (HL.out).mono ?_; rintro e w2 ⟨rfl, rfl⟩)
          | (go_at_call 32; refine (HI.out _ (by kernel_rfl) (by kernel_rfl)).mono ?_; rintro e w2 ⟨rfl, rfl⟩))
        go_ret
        exact ⟨rfl, rfl⟩
      | false =>
        rw [h4] at HI
        obtain rfl : allB idB s = r := by rw [← hr]; exact (nameB_parts h0 h1 h3 h4).symm
        clear hr h3 h4
        go_enter Tryz.func118, Tryz.ntmps118
        go_wp2_with (first
          | (go_at_call 174; refine (HL.out).mono ?_; rintro e w2 ⟨rfl, rfl⟩)
          | (go_at_call 32; refine (HI.out _ (by kernel_rfl) (by kernel_rfl)).mono ?_; rintro e w2 ⟨rfl, rfl⟩))
        go_loopg [3] (s.size) (fun m i wr => ∃ k : Nat, k ≤ s.size ∧ m = s.size - k ∧ i = .int .i64 k ∧ AllTo idB s k ∧ w = wr)
        case atStart => exact ⟨0, by omega, rfl, rfl, fun j _ h => absurd h (by omega), rfl⟩
        case round =>
          obtain ⟨k, hk, rfl, rfl, hA, rfl⟩ := hrel
          by_cases hlt : k < s.size
          · have HP := Lib.hid (rlet_ok (s[k].toNat : Int) w)
            have HX : Hid (idB (s[k].toNat : Int) = true → AllTo idB s (k + 1)) := Lib.hid fun h => hA.step hlt h
            have HF : Hid (idB (s[k].toNat : Int) = false → allB idB s = false) := Lib.hid fun h => AllTo.stop hlt h
            clear hA
            cases hp : letB (s[k].toNat : Int) with
            | true =>
              rw [hp] at HP
              have HS := Lib.hid (HX.out (by simp [idB, hp]))
              clear hp
              go_wp2_with (go_at_call 174; refine (HP.out).mono ?_; rintro e w2 ⟨rfl, rfl⟩)
              go_roundg (s.size - (k + 1))
              case measure => omega
              case rel => exact ⟨k + 1, by omega, rfl, by go_num, HS.out, rfl⟩
            | false =>
              rw [hp] at HP
              by_cases h48 : (s[k].toNat : Int) < 48
              · have hu : ¬ (s[k].toNat : Int) = 95 := by omega
                have hu' : ((s[k].toNat : Int) != 95) = true := by simpa using hu
                have HS := Lib.hid (HF.out (idB_n hp hu (by omega)))
                clear hp hu
                go_wp2_with (go_at_call 174; refine (HP.out).mono ?_; rintro e w2 ⟨rfl, rfl⟩)
                go_ret
                exact ⟨ret_bool HS.out.symm, rfl⟩
              · have h48' : decide ((s[k].toNat : Int) < 48) = false := by simpa using h48
                by_cases h57 : 57 < (s[k].toNat : Int)
                · by_cases hu : (s[k].toNat : Int) = 95
                  · have HS := Lib.hid (HX.out (idB_u hu))
                    have hu' : ((s[k].toNat : Int) != 95) = false := by simpa using hu
                    clear hp hu
                    go_wp2_with (go_at_call 174; refine (HP.out).mono ?_; rintro e w2 ⟨rfl, rfl⟩)
                    go_roundg (s.size - (k + 1))
                    case measure => omega
                    case rel => exact ⟨k + 1, by omega, rfl, by go_num, HS.out, rfl⟩
                  · have hu' : ((s[k].toNat : Int) != 95) = true := by simpa using hu
                    have HS := Lib.hid (HF.out (idB_n hp hu (by omega)))
                    clear hp hu
                    go_wp2_with (go_at_call 174; refine (HP.out).mono ?_; rintro e w2 ⟨rfl, rfl⟩)
                    go_ret
                    exact ⟨ret_bool HS.out.symm, rfl⟩
                · have h57' : decide (57 < (s[k].toNat : Int)) = false := by simpa using h57
                  have HS := Lib.hid (HX.out (idB_d h48 h57))
                  clear hp
                  go_wp2_with (go_at_call 174; refine (HP.out).mono ?_; rintro e w2 ⟨rfl, rfl⟩)
                  go_roundg (s.size - (k + 1))
                  case measure => omega
                  case rel => exact ⟨k + 1, by omega, rfl, by go_num, HS.out, rfl⟩
          · have HS := Lib.hid (hA.ends (by omega))
            go_wp2_with fail
            go_ret
            exact ⟨ret_bool HS.out.symm, rfl⟩
  · have g1 : decide ((20 : Int) < (s.size : Int)) = true := by simp; omega
    have g1' : (20 : Int) < (s.size : Int) := by omega
    obtain rfl : false = r := by rw [← hr]; unfold nameB identB; simp [h1]
    clear hr h1
    go_enter Tryz.func118, Tryz.ntmps118
    go_wp2_with fail
    go_ret
    exact ⟨rfl, rfl⟩
end Go.Proofs.YtmlfiopbdlaaaaaGreat

namespace Go.Proofs.YtmlfiopbdlaaaaaGreat
open Go.RowKit Go.Deep
def okP (p : PS) (f : Fm) : Bool := p.fits f && p.inB f
def okF : List PS → Option PS → List Fm → Bool
  | [], none, [] => true
  | [], none, _ :: _ => false
  | [], some p, ks => ks.all (okP p)
  | _ :: _, _, [] => false
  | a :: fr, m, k :: ks => okP a k && okF fr m ks
theorem ok_at (R : RS) (ks : List Fm) : R.ok ks = true ↔ R.lets ks.length = true ∧ ∀ i (h : i < ks.length), ∃ p, R.at i ks.length = some p ∧ okP p ks[i] = true := by
  unfold RS.ok
  rw [Bool.and_eq_true, Bool.and_eq_true, List.all_eq_true, List.all_eq_true]
  constructor
  · rintro ⟨⟨h1, h2⟩, h3⟩
    refine ⟨h1, fun i hi => ?_⟩
    have a := h2 i (List.mem_range.2 hi)
    have b := h3 i (List.mem_range.2 hi)
    rw [List.getElem?_eq_getElem hi] at a b
    cases hp : R.at i ks.length with
    | none => rw [hp] at a; simp [fitO] at a
    | some p => rw [hp] at a b; exact ⟨p, rfl, by simp only [fitO] at a; simp only [inO] at b; simp [okP, a, b]⟩
  · rintro ⟨h1, h2⟩
    refine ⟨⟨h1, fun i hi => ?_⟩, fun i hi => ?_⟩ <;>
    · have hi := List.mem_range.1 hi
      obtain ⟨p, hp, ho⟩ := h2 i hi
      simp only [okP, Bool.and_eq_true] at ho
      rw [hp, List.getElem?_eq_getElem hi]
      first | exact ho.1 | exact ho.2
theorem ok_nil : ∀ (fr : List PS) (m : Option PS) (ks : List Fm), RS.ok ⟨fr, m, []⟩ ks = okF fr m ks
  | [], none, [] => rfl
  | [], none, k :: ks => by rw [Bool.eq_iff_iff, ok_at]; simp [RS.lets, okF]
  | [], some p, ks => by
    rw [Bool.eq_iff_iff, ok_at]
    simp only [okF, List.all_eq_true]
    constructor
    · rintro ⟨_, h⟩ f hf
      obtain ⟨i, hi, rfl⟩ := List.getElem_of_mem hf
      obtain ⟨q, hq, ho⟩ := h i hi
      simp [RS.at, hi] at hq
      subst hq; exact ho
    · intro h
      refine ⟨?_, fun i hi => ⟨p, by simp [RS.at, hi], h _ (List.getElem_mem hi)⟩⟩
      cases ks <;> simp [RS.lets]
  | a :: fr, m, [] => by rw [Bool.eq_iff_iff, ok_at]; simp [RS.lets, okF]
  | a :: fr, m, k :: ks => by
    have ih := ok_nil fr m ks
    rw [Bool.eq_iff_iff, ok_at] at ih ⊢
    simp only [okF, Bool.and_eq_true]
    rw [← ih]
    constructor
    · rintro ⟨h1, h2⟩
      obtain ⟨p, hp, ho⟩ := h2 0 (by simp)
      have : a = p := by simpa [RS.at] using hp
      subst this
      refine ⟨ho, by simpa [RS.lets] using h1, fun i hi => ?_⟩
      obtain ⟨q, hq, hh⟩ := h2 (i + 1) (by simpa using hi)
      exact ⟨q, by simpa [RS.at] using hq, by simpa using hh⟩
    · rintro ⟨ho, h1, h2⟩
      refine ⟨by simpa [RS.lets] using h1, fun i hi => ?_⟩
      cases i with
      | zero => exact ⟨a, by simp [RS.at], ho⟩
      | succ i =>
        obtain ⟨q, hq, hh⟩ := h2 i (by simpa using hi)
        exact ⟨q, by simpa [RS.at] using hq, by simpa using hh⟩
theorem ok_back (fr bk : List PS) (ks : List Fm) : RS.ok ⟨fr, none, bk⟩ ks = okF (fr ++ bk) none ks := by
  rw [← ok_nil, Bool.eq_iff_iff, ok_at, ok_at]
  have hl : RS.lets ⟨fr, none, bk⟩ ks.length = RS.lets ⟨fr ++ bk, none, []⟩ ks.length := by simp [RS.lets]
  rw [hl]
  refine and_congr_right fun h => ?_
  have hn : ks.length = fr.length + bk.length := by simpa [RS.lets] using h
  refine forall_congr' fun i => forall_congr' fun hi => ?_
  have : RS.at ⟨fr, none, bk⟩ i ks.length = RS.at ⟨fr ++ bk, none, []⟩ i ks.length := by
    simp only [RS.at, List.length_append]
    by_cases h1 : i < fr.length
    · rw [if_pos h1, if_pos (by omega), List.getElem?_append_left h1]
    · rw [if_neg h1, if_neg (by omega), if_pos (by omega), List.getElem?_append_right (by omega)]; congr 1; omega
  rw [this]
theorem ok_quant (L Tr e : PS) (ks : List Fm) : RS.ok ⟨[L], some Tr, [e]⟩ ks = true ↔ ∃ x ms y, ks = x :: (ms ++ [y]) ∧ okP L x = true ∧ (∀ m ∈ ms, okP Tr m = true) ∧ okP e y = true := by
  rw [ok_at]
  constructor
  · rintro ⟨h1, h2⟩
    have hn : 2 ≤ ks.length := by simp [RS.lets] at h1; omega
    obtain ⟨x, r, rfl⟩ : ∃ x r, ks = x :: r := by cases ks with | nil => simp at hn | cons x r => exact ⟨x, r, rfl⟩
    have hr : r ≠ [] := by intro e; subst e; simp at hn
    refine ⟨x, r.dropLast, r.getLast hr, by rw [List.dropLast_concat_getLast], ?_, ?_, ?_⟩
    · obtain ⟨p, hp, ho⟩ := h2 0 (by simp)
      have : L = p := by simpa [RS.at] using hp
      subst this; exact ho
    · intro m hm
      obtain ⟨i, hi, rfl⟩ := List.getElem_of_mem hm
      have hi' : i < r.length - 1 := by simpa using hi
      obtain ⟨p, hp, ho⟩ := h2 (i + 1) (by simp; omega)
      have hi2 : i + 1 < r.length := by omega
      have : Tr = p := by simpa [RS.at, hi2] using hp
      subst this
      simpa [List.getElem_dropLast] using ho
    · have hl : 0 < r.length := List.length_pos_iff.2 hr
      obtain ⟨p, hp, ho⟩ := h2 r.length (by simp)
      have : e = p := by
        simp only [RS.at, List.length_cons, List.length_nil] at hp
        rw [if_neg (by omega), if_neg (by omega)] at hp
        simpa using hp
      subst this
      rw [List.getLast_eq_getElem]
      obtain ⟨m, hm⟩ : ∃ m, r.length = m + 1 := ⟨r.length - 1, by omega⟩
      simp only [hm, List.getElem_cons_succ] at ho
      simpa [hm] using ho
  · rintro ⟨x, ms, y, rfl, hL, hT, hE⟩
    refine ⟨by rcases ms with _ | ⟨m, r⟩ <;> simp [RS.lets], fun i hi => ?_⟩
    cases i with
    | zero => exact ⟨L, by simp [RS.at], hL⟩
    | succ i =>
      by_cases h : i < ms.length
      · refine ⟨Tr, by simp [RS.at, h], ?_⟩
        have : (x :: (ms ++ [y]))[i + 1] = ms[i] := by simp [h]
        rw [this]; exact hT _ (List.getElem_mem h)
      · have hi2 : i = ms.length := by simp at hi; omega
        subst hi2
        refine ⟨e, by simp [RS.at], ?_⟩
        have : (x :: (ms ++ [y]))[ms.length + 1] = y := by simp
        rw [this]; exact hE
def AllE (E : Fm → Bool) (l : List Fm) : Prop := ∀ x ∈ l, E x = true
@[simp] theorem okP_expr (E : Fm → Bool) (f : Fm) : okP (exprP E) f = E f := by simp [okP, exprP, PS.inB]
@[simp] theorem okP_name (f : Fm) : okP nameP f = nameF f := by simp [okP, nameP, PS.inB]
@[simp] theorem okP_type (f : Fm) : okP typeP f = typeF f := by simp [okP, typeP, PS.inB]
theorem okP_list (R : RS) (g : List Fm → Bool) (f : Fm) : okP (listP R g) f = (listF f && (R.ok f.ks && g f.ks)) := by simp [okP, listP, PS.inB]
def pairF (p : Fm) : Bool := listF p && okF [nameP, typeP] none p.ks
@[simp] theorem okP_typed (p : Fm) : okP typedP p = pairF p := by rw [typedP, okP_list, ok_nil, pairF]; simp
theorem pairF_iff (p : Fm) : pairF p = true ↔ p.kd = 3 ∧ ∃ x y, p.ks = [x, y] ∧ nameF x = true ∧ typeF y = true := by
  unfold pairF listF
  rcases h : p.ks with _ | ⟨x, _ | ⟨y, _ | ⟨z, r⟩⟩⟩ <;> simp [okF, and_assoc]
def listOk (E : Fm → Bool) (f : Fm) : Bool := match exprR E f with | some R => R.ok (f.ks.drop 1) | none => false
theorem any_mem (s : List UInt8) (L : List (List UInt8)) : L.any (fun x => s == x) = decide (s ∈ L) := by
  rw [Bool.eq_iff_iff]; simp
theorem inB_hd (f : Fm) (row : List UInt8) (L : List (List UInt8)) (h : splitB [] row = L) : inB (headF f).data.toList [] row = hdIn f L := by
  rw [inB_split, h]; unfold hdIn; rw [any_mem, Lib.toList_data]
end Go.Proofs.YtmlfiopbdlaaaaaGreat
